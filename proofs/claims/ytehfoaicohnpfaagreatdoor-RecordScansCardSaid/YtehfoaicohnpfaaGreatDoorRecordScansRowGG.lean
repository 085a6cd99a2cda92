/- The texts Args RecX RecY RecZA CodecLaid, one behind the other; each one's own comment says what it holds. -/
import Derived.Test.YtehfoaicohnpfaaGreatDoorRecordScansRowGA
import Derived.Test.YtehfoaicohnpfaaGreatDoorOpenStructs
import Derived.Deep.Strs
import Derived.Lib.Strings
import Derived.Test.YtehfoaicohnpfaaGreatDoorRecordScansRowGF
import Derived.Test.YtehfoaicohnpfaaGreatDoorCodecSum
import Derived.Test.YtehfoaicohnpfaaGreatDoorTie
import Derived.ProofKit
import Derived.LaidMore
import Derived.Lay
import Derived.SevenTiedAt
import Derived.Stop.Joined
import Derived.ShutString
import Derived.ChangeOld
/- Arguments opened: texts, slices of texts, columns, measures, tables and rollups that came in, and how great their parts may be. Conditions: as stated. -/
set_option maxRecDepth 100000
namespace Go.Proofs.YtehfoaicohnpfaaGreatDoor
open Go.ChangeShapes Go.WideShapes Go.ChangeAt Go.RowKit Go.Maps Go.Sort Go.Deep Go.Joins Go.Lib

/-- a bound on the parts of a datum -/
structure LimOk {H : Type} (Lim : TypeId → DataW H → Prop) (M : Nat) : Prop where
  agg : ∀ (t : TypeId) (fs : Array Field) (ds : List (DataW H)) (j : Nat) (f : Field) (d : DataW H), Tryz.prog.underlying t = some (.struct fs) → Lim t (.agg ds) → fs[j]? = some f → ds[j]? = some d → Lim f.type d
  slc : ∀ (t e : TypeId) (es sp : List (DataW H)), Tryz.prog.underlying t = some (.slice e) → 0 < Tryz.prog.bytesOf e → Lim t (.slice es sp) → es.length ≤ M ∧ ∀ d ∈ es, Lim e d
  str : ∀ (t : TypeId) (b : List UInt8), Lim t (.lit (.string b)) → b.length ≤ M
section
variable {H : Type} {enc : TypeId × Value → H} {w : World} {Lim : TypeId → DataW H → Prop} {M : Nat}
abbrev Tr (enc : TypeId × Value → H) (w : World) (fuel : Nat) (t : TypeId) (cs : List Value) (y : DataW H × List MemPlace) : Prop := DataW.trod enc Tryz.prog w 0 (fun _ => true) true fuel t cs = some y
theorem str_of (L : LimOk Lim M) {fuel : Nat} {v : Value} {y : DataW H × List MemPlace} (h : Tr enc w fuel 9 [v] y) (hl : Lim 9 y.1) : ∃ s : ByteArray, v = .string s ∧ s.size ≤ M := by
  obtain ⟨s, e, ey, _⟩ := DataW.trod_string Tryz.underlying9 h
  simp only [List.cons.injEq, and_true] at e
  subst e ey
  have := L.str _ _ hl
  rw [show s.data.toList.length = s.size from (Lib.size_eq s).symm] at this
  exact ⟨s, rfl, this⟩
theorem int_of {fuel : Nat} {v : Value} {y : DataW H × List MemPlace} (h : Tr enc w fuel 3 [v] y) : ∃ n : Int, v = .int .i64 n ∧ -9223372036854775808 ≤ n ∧ n < 9223372036854775808 := by
  obtain ⟨n, e, _, hw⟩ := DataW.trod_int Tryz.underlying3 h
  simp only [List.cons.injEq, and_true] at e
  subst e
  exact ⟨n, rfl, bounds_of_i64 hw⟩
theorem two_list {cs : List Value} (h : cs.length = 2) : ∃ a b, cs = [a, b] := by
  match cs, h with
  | [a, b], _ => exact ⟨a, b, rfl⟩
/-- the elements of a slice that came in -/
theorem els_of (L : LimOk Lim M) {t e : TypeId} {fuel : Nat} {v : Value} {y : DataW H × List MemPlace} (ht : Tryz.prog.underlying t = some (.slice e)) (hb : 0 < Tryz.prog.bytesOf e) (h : Tr enc w fuel t [v] y) (hl : Lim t y.1) :
    v = .slice none 0 0 ∨ ∃ (a : Addr) (n c : Nat), v = .slice (some a) n c ∧ n ≤ c ∧ n ≤ M ∧ ∀ i, i < n → ∃ (m : Nat) (cs : List Value) (z : DataW H × List MemPlace), Tr enc w m e cs z ∧ Lim e z.1 ∧ ∀ j u, cs[j]? = some u → w.cell? (a.add (i * Tryz.prog.cellsOf e + j)) = some u := by
  rcases open_slice ht h with ⟨h0, _⟩ | ⟨a, len, cap, m, n, D, Pl, hcs, _, hc, _, hm, rfl, hi⟩
  · exact .inl (by simpa using h0)
  · simp only [List.cons.injEq, and_true] at hcs
    obtain ⟨l1, l2⟩ := L.slc t e _ _ ht hb hl
    simp at l1
    refine .inr ⟨a, len, cap, hcs, hc, l1, fun i hil => ?_⟩
    obtain ⟨cs, hcell, htr⟩ := hi i (by rw [hm]; simp; omega)
    refine ⟨n, cs, _, htr, l2 _ (List.mem_map.2 ⟨i, List.mem_range.2 hil, rfl⟩), fun j u hu => ?_⟩
    obtain ⟨_, hlen, hat⟩ := World.cells?_some hcell
    have hj : j < Tryz.prog.cellsOf e := by rw [← hlen]; exact (List.getElem?_eq_some_iff.1 hu).1
    rw [← Go.Deep.add_add, hat j hj, hu]
/-- a list out of places -/
theorem list_of {α : Type} {n : Nat} {P : Nat → α → Prop} (h : ∀ i, i < n → ∃ x, P i x) : ∃ l : List α, l.length = n ∧ ∀ i x, l[i]? = some x → P i x := by
  have h' : ∀ i : Nat, ∃ x : Option α, i < n → ∃ y, x = some y ∧ P i y := fun i => by
    by_cases hi : i < n
    · obtain ⟨x, hx⟩ := h i hi
      exact ⟨some x, fun _ => ⟨x, rfl, hx⟩⟩
    · exact ⟨none, fun g => absurd g hi⟩
  obtain ⟨f, hf⟩ := Classical.skolem.1 h'
  refine ⟨(List.range n).filterMap f, ?_, ?_⟩
  · have key : ∀ k, k ≤ n → ((List.range k).filterMap f).length = k := by
      intro k
      induction k with
      | zero => simp
      | succ k ih =>
        intro hk
        obtain ⟨y, hy, _⟩ := hf k (by omega)
        rw [List.range_succ, List.filterMap_append, List.length_append, ih (by omega)]
        simp [hy]
    exact key n (Nat.le_refl _)
  · have key : ∀ k, k ≤ n → ∀ i x, ((List.range k).filterMap f)[i]? = some x → P i x := by
      intro k
      induction k with
      | zero => intro _ i x hx; simp at hx
      | succ k ih =>
        intro hk i x hx
        obtain ⟨y, hy, hp⟩ := hf k (by omega)
        have hl : ((List.range k).filterMap f).length = k := by
          have key2 : ∀ k, k ≤ n → ((List.range k).filterMap f).length = k := by
            intro k
            induction k with
            | zero => simp
            | succ k ih =>
              intro hk
              obtain ⟨y, hy, _⟩ := hf k (by omega)
              rw [List.range_succ, List.filterMap_append, List.length_append, ih (by omega)]
              simp [hy]
          exact key2 k (by omega)
        rw [List.range_succ, List.filterMap_append] at hx
        rcases Nat.lt_or_ge i k with g | g
        · rw [List.getElem?_append_left (by omega)] at hx
          exact ih (by omega) i x hx
        · rw [List.getElem?_append_right (by omega), hl] at hx
          have e : [k].filterMap f = [y] := by simp [hy]
          rw [e] at hx
          have hik : i - k = 0 := by
            rcases Nat.eq_zero_or_pos (i - k) with g2 | g2
            · exact g2
            · rw [List.getElem?_eq_none (by simp; omega)] at hx; cases hx
          rw [hik] at hx
          simp at hx
          subst hx
          have : i = k := by omega
          subst this
          exact hp
    exact key n (Nat.le_refl _)
theorem cells_col : Tryz.prog.cellsOf 48 = 2 := by kernel_rfl
theorem cells_mea : Tryz.prog.cellsOf 78 = 2 := by kernel_rfl
theorem cells_str : Tryz.prog.cellsOf 9 = 1 := by kernel_rfl
theorem cells_int : Tryz.prog.cellsOf 3 = 1 := by kernel_rfl
theorem cells_tab : Tryz.prog.cellsOf 36 = 2 := by kernel_rfl
theorem cells_rol : Tryz.prog.cellsOf 40 = 4 := by kernel_rfl
theorem cells_cols : Tryz.prog.cellsOf 34 = 1 := by kernel_rfl
theorem cells_meas : Tryz.prog.cellsOf 38 = 1 := by kernel_rfl
theorem cells_strs : Tryz.prog.cellsOf 37 = 1 := by kernel_rfl
theorem col_of (L : LimOk Lim M) {fuel : Nat} {cs : List Value} {y : DataW H × List MemPlace} (h : Tr enc w fuel 48 cs y) (hl : Lim 48 y.1) : ∃ c : ByteArray × Int, cs = [.string c.1, .int .i64 c.2] ∧ c.1.size ≤ M ∧ -9223372036854775808 ≤ c.2 ∧ c.2 < 9223372036854775808 := by
  obtain ⟨xs, n, _, ex, hlen, hxl, hf⟩ := DataW.trod_struct Tryz.underlying48 h
  rw [cells_col] at hlen
  obtain ⟨u0, u1, rfl⟩ := two_list hlen
  have f0 : DataW.trod enc Tryz.prog w 0 (fun _ => true) true n 9 (([u0, u1].drop 0).take (Tryz.prog.cellsOf 9)) = xs[0]? := hf 0 _ rfl
  have f1 : DataW.trod enc Tryz.prog w 0 (fun _ => true) true n 3 (([u0, u1].drop 1).take (Tryz.prog.cellsOf 3)) = xs[1]? := hf 1 _ rfl
  rw [cells_str] at f0
  rw [cells_int] at f1
  obtain ⟨z0, x0⟩ : ∃ z, xs[0]? = some z := ⟨_, List.getElem?_eq_getElem (l := xs) (i := 0) (by rw [hxl]; decide)⟩
  obtain ⟨z1, x1⟩ : ∃ z, xs[1]? = some z := ⟨_, List.getElem?_eq_getElem (l := xs) (i := 1) (by rw [hxl]; decide)⟩
  rw [x0] at f0
  rw [x1] at f1
  rw [ex] at hl
  have l0 := L.agg _ _ _ 0 _ z0.1 Tryz.underlying48 hl rfl (by rw [List.getElem?_map, x0]; rfl)
  obtain ⟨s, rfl, hs⟩ := str_of (enc := enc) (w := w) L f0 l0
  obtain ⟨z, rfl, hz⟩ := int_of (enc := enc) (w := w) f1
  exact ⟨(s, z), rfl, hs, hz⟩
theorem mea_of (L : LimOk Lim M) {fuel : Nat} {cs : List Value} {y : DataW H × List MemPlace} (h : Tr enc w fuel 78 cs y) (hl : Lim 78 y.1) : ∃ c : Int × ByteArray, cs = [.int .i64 c.1, .string c.2] ∧ c.2.size ≤ M ∧ -9223372036854775808 ≤ c.1 ∧ c.1 < 9223372036854775808 := by
  obtain ⟨xs, n, _, ex, hlen, hxl, hf⟩ := DataW.trod_struct Tryz.underlying78 h
  rw [cells_mea] at hlen
  obtain ⟨u0, u1, rfl⟩ := two_list hlen
  have f0 : DataW.trod enc Tryz.prog w 0 (fun _ => true) true n 3 (([u0, u1].drop 0).take (Tryz.prog.cellsOf 3)) = xs[0]? := hf 0 _ rfl
  have f1 : DataW.trod enc Tryz.prog w 0 (fun _ => true) true n 9 (([u0, u1].drop 1).take (Tryz.prog.cellsOf 9)) = xs[1]? := hf 1 _ rfl
  rw [cells_int] at f0
  rw [cells_str] at f1
  obtain ⟨z0, x0⟩ : ∃ z, xs[0]? = some z := ⟨_, List.getElem?_eq_getElem (l := xs) (i := 0) (by rw [hxl]; decide)⟩
  obtain ⟨z1, x1⟩ : ∃ z, xs[1]? = some z := ⟨_, List.getElem?_eq_getElem (l := xs) (i := 1) (by rw [hxl]; decide)⟩
  rw [x0] at f0
  rw [x1] at f1
  rw [ex] at hl
  have l1 := L.agg _ _ _ 1 _ z1.1 Tryz.underlying78 hl rfl (by rw [List.getElem?_map, x1]; rfl)
  obtain ⟨z, rfl, hz⟩ := int_of (enc := enc) (w := w) f0
  obtain ⟨s, rfl, hs⟩ := str_of (enc := enc) (w := w) L f1 l1
  exact ⟨(z, s), rfl, hs, hz⟩
theorem cell_off {a : Addr} {k i j : Nat} (hj : 0 < j) {u : Value} (h : w.cell? (a.add (i * k + j)) = some u) : w.cell? ⟨(a.add (i * k)).block, (a.add (i * k)).off + j, none⟩ = some u := by
  rw [← add_offn a (i * k) j hj]; exact h
theorem cols_of (L : LimOk Lim M) {fuel : Nat} {v : Value} {y : DataW H × List MemPlace} (h : Tr enc w fuel 34 [v] y) (hl : Lim 34 y.1) :
    ∃ l : List (ByteArray × Int), Holds2 w v (l.map colC) ∧ l.length ≤ M ∧ ∀ c ∈ l, c.1.size ≤ M ∧ -9223372036854775808 ≤ c.2 ∧ c.2 < 9223372036854775808 := by
  rcases els_of (enc := enc) L Tryz.underlying34 (of_decide_eq_true (by kernel_rfl)) h hl with rfl | ⟨a, n, c, rfl, hc, hM, hi⟩
  · exact ⟨[], ⟨none, 0, rfl, Nat.le_refl _, .inl ⟨rfl, rfl, rfl⟩⟩, Nat.zero_le _, fun c hc => by cases hc⟩
  obtain ⟨l, hll, hp⟩ := list_of (P := fun i (c : ByteArray × Int) => (w.cell? (a.add (i * 2)) = some (.string c.1) ∧ w.cell? ⟨(a.add (i * 2)).block, (a.add (i * 2)).off + 1, none⟩ = some (.int .i64 c.2)) ∧ c.1.size ≤ M ∧ -9223372036854775808 ≤ c.2 ∧ c.2 < 9223372036854775808) (fun i hil => by
    obtain ⟨m, cs, z, ht, hlz, hcell⟩ := hi i hil
    obtain ⟨c, rfl, h1⟩ := col_of (enc := enc) (w := w) L ht hlz
    rw [cells_col] at hcell
    exact ⟨c, ⟨by simpa using hcell 0 _ rfl, cell_off (by omega) (hcell 1 _ rfl)⟩, h1⟩)
  refine ⟨l, ⟨some a, c, by rw [List.length_map, hll], by rw [List.length_map, hll]; exact hc, .inr ⟨a, rfl, fun i x hx => ?_⟩⟩, by omega, fun c hc => ?_⟩
  · rw [List.getElem?_map] at hx
    obtain ⟨c, hc, rfl⟩ := Option.map_eq_some_iff.1 hx
    exact (hp i c hc).1
  · obtain ⟨i, hic⟩ := List.mem_iff_getElem?.1 hc
    exact (hp i c hic).2
theorem meas_of (L : LimOk Lim M) {fuel : Nat} {v : Value} {y : DataW H × List MemPlace} (h : Tr enc w fuel 38 [v] y) (hl : Lim 38 y.1) :
    ∃ l : List (Int × ByteArray), Holds2 w v (l.map meaC) ∧ l.length ≤ M ∧ ∀ c ∈ l, c.2.size ≤ M ∧ -9223372036854775808 ≤ c.1 ∧ c.1 < 9223372036854775808 := by
  rcases els_of (enc := enc) L Tryz.underlying38 (of_decide_eq_true (by kernel_rfl)) h hl with rfl | ⟨a, n, c, rfl, hc, hM, hi⟩
  · exact ⟨[], ⟨none, 0, rfl, Nat.le_refl _, .inl ⟨rfl, rfl, rfl⟩⟩, Nat.zero_le _, fun c hc => by cases hc⟩
  obtain ⟨l, hll, hp⟩ := list_of (P := fun i (c : Int × ByteArray) => (w.cell? (a.add (i * 2)) = some (.int .i64 c.1) ∧ w.cell? ⟨(a.add (i * 2)).block, (a.add (i * 2)).off + 1, none⟩ = some (.string c.2)) ∧ c.2.size ≤ M ∧ -9223372036854775808 ≤ c.1 ∧ c.1 < 9223372036854775808) (fun i hil => by
    obtain ⟨m, cs, z, ht, hlz, hcell⟩ := hi i hil
    obtain ⟨c, rfl, h1⟩ := mea_of (enc := enc) (w := w) L ht hlz
    rw [cells_mea] at hcell
    exact ⟨c, ⟨by simpa using hcell 0 _ rfl, cell_off (by omega) (hcell 1 _ rfl)⟩, h1⟩)
  refine ⟨l, ⟨some a, c, by rw [List.length_map, hll], by rw [List.length_map, hll]; exact hc, .inr ⟨a, rfl, fun i x hx => ?_⟩⟩, by omega, fun c hc => ?_⟩
  · rw [List.getElem?_map] at hx
    obtain ⟨c, hc, rfl⟩ := Option.map_eq_some_iff.1 hx
    exact (hp i c hc).1
  · obtain ⟨i, hic⟩ := List.mem_iff_getElem?.1 hc
    exact (hp i c hic).2
theorem strs_of (L : LimOk Lim M) {fuel : Nat} {v : Value} {y : DataW H × List MemPlace} (h : Tr enc w fuel 37 [v] y) (hl : Lim 37 y.1) :
    ∃ l : List ByteArray, Holds w v (strs l) ∧ l.length ≤ M ∧ ∀ s ∈ l, s.size ≤ M := by
  rcases els_of (enc := enc) L Tryz.underlying37 (of_decide_eq_true (by kernel_rfl)) h hl with rfl | ⟨a, n, c, rfl, hc, hM, hi⟩
  · exact ⟨[], Holds.nil w, Nat.zero_le _, fun c hc => by cases hc⟩
  obtain ⟨l, hll, hp⟩ := list_of (P := fun i (s : ByteArray) => w.cell? (a.add i) = some (.string s) ∧ s.size ≤ M) (fun i hil => by
    obtain ⟨m, cs, z, ht, hlz, hcell⟩ := hi i hil
    obtain ⟨s, ecs, _, _⟩ := DataW.trod_string Tryz.underlying9 ht
    subst ecs
    obtain ⟨s', e, hs⟩ := str_of (enc := enc) (w := w) L ht hlz
    cases e
    rw [cells_str] at hcell
    exact ⟨s, by simpa using hcell 0 _ rfl, hs⟩)
  refine ⟨l, ⟨some a, c, by rw [strs_len, hll], by rw [strs_len, hll]; exact hc, .inr ⟨a, rfl, fun i u hu => ?_⟩⟩, by omega, fun c hc => ?_⟩
  · unfold strs at hu
    rw [List.getElem?_map] at hu
    obtain ⟨s, hs, rfl⟩ := Option.map_eq_some_iff.1 hu
    exact (hp i s hs).1
  · obtain ⟨i, hic⟩ := List.mem_iff_getElem?.1 hc
    exact (hp i c hic).2
theorem four_list {cs : List Value} (h : cs.length = 4) : ∃ a b c d, cs = [a, b, c, d] := by
  match cs, h with
  | [a, b, c, d], _ => exact ⟨a, b, c, d, rfl⟩
theorem tab_of (L : LimOk Lim M) {fuel : Nat} {cs : List Value} {y : DataW H × List MemPlace} (h : Tr enc w fuel 36 cs y) (hl : Lim 36 y.1) :
    ∃ (tn : ByteArray) (tc : List (ByteArray × Int)) (a : Value), cs = [.string tn, a] ∧ Holds2 w a (tc.map colC) ∧ tn.size ≤ M ∧ tc.length ≤ M ∧ ∀ c ∈ tc, c.1.size ≤ M ∧ -9223372036854775808 ≤ c.2 ∧ c.2 < 9223372036854775808 := by
  obtain ⟨xs, n, _, ex, hlen, hxl, hf⟩ := DataW.trod_struct Tryz.underlying36 h
  rw [cells_tab] at hlen
  obtain ⟨u0, u1, rfl⟩ := two_list hlen
  have f0 : DataW.trod enc Tryz.prog w 0 (fun _ => true) true n 9 (([u0, u1].drop 0).take (Tryz.prog.cellsOf 9)) = xs[0]? := hf 0 _ rfl
  have f1 : DataW.trod enc Tryz.prog w 0 (fun _ => true) true n 34 (([u0, u1].drop 1).take (Tryz.prog.cellsOf 34)) = xs[1]? := hf 1 _ rfl
  rw [cells_str] at f0
  rw [cells_cols] at f1
  rw [ex] at hl
  obtain ⟨z0, x0⟩ : ∃ z, xs[0]? = some z := ⟨_, List.getElem?_eq_getElem (l := xs) (i := 0) (by rw [hxl]; decide)⟩
  rw [x0] at f0
  have l0 := L.agg _ _ _ 0 _ z0.1 Tryz.underlying36 hl rfl (by rw [List.getElem?_map, x0]; rfl)
  obtain ⟨z1, x1⟩ : ∃ z, xs[1]? = some z := ⟨_, List.getElem?_eq_getElem (l := xs) (i := 1) (by rw [hxl]; decide)⟩
  rw [x1] at f1
  have l1 := L.agg _ _ _ 1 _ z1.1 Tryz.underlying36 hl rfl (by rw [List.getElem?_map, x1]; rfl)
  obtain ⟨tn, rfl, hs⟩ := str_of (enc := enc) (w := w) L f0 l0
  obtain ⟨tc, g1, g2, g3⟩ := cols_of (enc := enc) (w := w) L f1 l1
  exact ⟨tn, tc, u1, rfl, g1, hs, g2, g3⟩
theorem rol_of (L : LimOk Lim M) {fuel : Nat} {cs : List Value} {y : DataW H × List MemPlace} (h : Tr enc w fuel 40 cs y) (hl : Lim 40 y.1) :
    ∃ (rn rt : ByteArray) (rd : List ByteArray) (rm : List (Int × ByteArray)) (b c : Value), cs = [.string rn, .string rt, b, c] ∧ Holds w b (strs rd) ∧ Holds2 w c (rm.map meaC) ∧ rn.size ≤ M ∧ rt.size ≤ M ∧ (rd.length ≤ M ∧ ∀ s ∈ rd, s.size ≤ M) ∧ rm.length ≤ M ∧ ∀ c ∈ rm, c.2.size ≤ M ∧ -9223372036854775808 ≤ c.1 ∧ c.1 < 9223372036854775808 := by
  obtain ⟨xs, n, _, ex, hlen, hxl, hf⟩ := DataW.trod_struct Tryz.underlying40 h
  rw [cells_rol] at hlen
  obtain ⟨u0, u1, u2, u3, rfl⟩ := four_list hlen
  have f0 : DataW.trod enc Tryz.prog w 0 (fun _ => true) true n 9 (([u0, u1, u2, u3].drop 0).take (Tryz.prog.cellsOf 9)) = xs[0]? := hf 0 _ rfl
  have f1 : DataW.trod enc Tryz.prog w 0 (fun _ => true) true n 9 (([u0, u1, u2, u3].drop 1).take (Tryz.prog.cellsOf 9)) = xs[1]? := hf 1 _ rfl
  have f2 : DataW.trod enc Tryz.prog w 0 (fun _ => true) true n 37 (([u0, u1, u2, u3].drop 2).take (Tryz.prog.cellsOf 37)) = xs[2]? := hf 2 _ rfl
  have f3 : DataW.trod enc Tryz.prog w 0 (fun _ => true) true n 38 (([u0, u1, u2, u3].drop 3).take (Tryz.prog.cellsOf 38)) = xs[3]? := hf 3 _ rfl
  rw [cells_str] at f0
  rw [cells_str] at f1
  rw [cells_strs] at f2
  rw [cells_meas] at f3
  rw [ex] at hl
  obtain ⟨z0, x0⟩ : ∃ z, xs[0]? = some z := ⟨_, List.getElem?_eq_getElem (l := xs) (i := 0) (by rw [hxl]; decide)⟩
  rw [x0] at f0
  have l0 := L.agg _ _ _ 0 _ z0.1 Tryz.underlying40 hl rfl (by rw [List.getElem?_map, x0]; rfl)
  obtain ⟨z1, x1⟩ : ∃ z, xs[1]? = some z := ⟨_, List.getElem?_eq_getElem (l := xs) (i := 1) (by rw [hxl]; decide)⟩
  rw [x1] at f1
  have l1 := L.agg _ _ _ 1 _ z1.1 Tryz.underlying40 hl rfl (by rw [List.getElem?_map, x1]; rfl)
  obtain ⟨z2, x2⟩ : ∃ z, xs[2]? = some z := ⟨_, List.getElem?_eq_getElem (l := xs) (i := 2) (by rw [hxl]; decide)⟩
  rw [x2] at f2
  have l2 := L.agg _ _ _ 2 _ z2.1 Tryz.underlying40 hl rfl (by rw [List.getElem?_map, x2]; rfl)
  obtain ⟨z3, x3⟩ : ∃ z, xs[3]? = some z := ⟨_, List.getElem?_eq_getElem (l := xs) (i := 3) (by rw [hxl]; decide)⟩
  rw [x3] at f3
  have l3 := L.agg _ _ _ 3 _ z3.1 Tryz.underlying40 hl rfl (by rw [List.getElem?_map, x3]; rfl)
  obtain ⟨rn, rfl, hs⟩ := str_of (enc := enc) (w := w) L f0 l0
  obtain ⟨rt, rfl, hs2⟩ := str_of (enc := enc) (w := w) L f1 l1
  obtain ⟨rd, g1, g2, g3⟩ := strs_of (enc := enc) (w := w) L f2 l2
  obtain ⟨rm, k1, k2, k3⟩ := meas_of (enc := enc) (w := w) L f3 l3
  exact ⟨rn, rt, rd, rm, u2, u3, rfl, g1, k1, hs, hs2, ⟨g2, g3⟩, k2, k3⟩
end
abbrev LimW (H : Type) : TypeId → DataW H → Prop := fun t d => ∀ n ∈ DataW.weights Tryz.prog t d, n ≤ 140737488355328
theorem weights_all {H : Type} {e : TypeId} {d : DataW H} : ∀ {l : List (DataW H)}, d ∈ l → ∀ n ∈ DataW.weights Tryz.prog e d, n ∈ DataW.weightsAll Tryz.prog e l
  | [], h, _, _ => by cases h
  | x :: r, h, n, hn => by
    simp only [DataW.weightsAll, List.mem_append]
    rcases List.mem_cons.1 h with rfl | h
    · exact .inl hn
    · exact .inr (weights_all h n hn)
theorem limW (H : Type) : LimOk (LimW H) 140737488355328 where
  agg := fun t fs ds j f d ht h hf hd n hn => by
    refine h n ?_
    simp only [DataW.weights, ht]
    exact DataW.weights_mem_each (j := j) (by simpa using congrArg (Option.map (·.type)) hf) hd n hn
  slc := fun t e es sp ht hb h => by
    have h1 := h ((es.length + sp.length) * Tryz.prog.bytesOf e) (by simp only [DataW.weights, ht]; exact List.mem_cons_self ..)
    refine ⟨?_, fun d hd n hn => h n ?_⟩
    · have h2 : (es.length + sp.length) * 1 ≤ (es.length + sp.length) * Tryz.prog.bytesOf e := Nat.mul_le_mul_left _ hb
      omega
    · simp only [DataW.weights, ht]
      exact List.mem_cons_of_mem _ (List.mem_append_left _ (weights_all hd n hn))
  str := fun t b h => h _ (by simp [DataW.weights])
end Go.Proofs.YtehfoaicohnpfaaGreatDoor
/- Records that came in, opened: what they are in memory, and how great their parts may be. Conditions: as stated. -/
set_option maxRecDepth 100000
namespace Go.Proofs.YtehfoaicohnpfaaGreatDoor
open Go.ChangeShapes Go.WideShapes Go.ChangeAt Go.RowKit Go.Maps Go.Sort Go.Deep Go.Joins Go.Lib

section
variable {H : Type} {enc : TypeId × Value → H} {w : World} {Lim : TypeId → DataW H → Prop} {M : Nat}
theorem three_list {cs : List Value} (h : cs.length = 3) : ∃ a b c, cs = [a, b, c] := by
  match cs, h with
  | [a, b, c], _ => exact ⟨a, b, c, rfl⟩
theorem add_cell0 {a : Addr} {i k : Nat} {u : Value} (h : ∀ j v, ([u] ++ ([] : List Value))[j]? = some v → w.cell? (a.add (i * k + j)) = some v) : w.cell? (a.add (i * k)) = some u := by
  have := h 0 u rfl
  simpa using this
theorem cells_val : Tryz.prog.cellsOf 99 = 3 := by kernel_rfl
theorem cells_row : Tryz.prog.cellsOf 79 = 1 := by kernel_rfl
theorem cells_rows : Tryz.prog.cellsOf 41 = 1 := by kernel_rfl
theorem cells_rec : Tryz.prog.cellsOf 43 = 9 := by kernel_rfl
theorem val_of (L : LimOk Lim M) {fuel : Nat} {cs : List Value} {y : DataW H × List MemPlace} (h : Tr enc w fuel 99 cs y) (hl : Lim 99 y.1) : ∃ v : VV, cs = encV v ∧ v.inI ∧ v.s.size ≤ M := by
  obtain ⟨xs, n, _, ex, hlen, hxl, hf⟩ := DataW.trod_struct Tryz.underlying99 h
  rw [cells_val] at hlen
  obtain ⟨u0, u1, u2, rfl⟩ := three_list hlen
  have f0 : DataW.trod enc Tryz.prog w 0 (fun _ => true) true n 3 (([u0, u1, u2].drop 0).take (Tryz.prog.cellsOf 3)) = xs[0]? := hf 0 _ rfl
  have f1 : DataW.trod enc Tryz.prog w 0 (fun _ => true) true n 3 (([u0, u1, u2].drop 1).take (Tryz.prog.cellsOf 3)) = xs[1]? := hf 1 _ rfl
  have f2 : DataW.trod enc Tryz.prog w 0 (fun _ => true) true n 9 (([u0, u1, u2].drop 2).take (Tryz.prog.cellsOf 9)) = xs[2]? := hf 2 _ rfl
  rw [cells_int] at f0 f1
  rw [cells_str] at f2
  obtain ⟨z0, x0⟩ : ∃ z, xs[0]? = some z := ⟨_, List.getElem?_eq_getElem (l := xs) (i := 0) (by rw [hxl]; decide)⟩
  obtain ⟨z1, x1⟩ : ∃ z, xs[1]? = some z := ⟨_, List.getElem?_eq_getElem (l := xs) (i := 1) (by rw [hxl]; decide)⟩
  obtain ⟨z2, x2⟩ : ∃ z, xs[2]? = some z := ⟨_, List.getElem?_eq_getElem (l := xs) (i := 2) (by rw [hxl]; decide)⟩
  rw [x0] at f0
  rw [x1] at f1
  rw [x2] at f2
  rw [ex] at hl
  have l2 := L.agg _ _ _ 2 _ z2.1 Tryz.underlying99 hl rfl (by rw [List.getElem?_map, x2]; rfl)
  obtain ⟨k, rfl, _⟩ := int_of (enc := enc) (w := w) f0
  obtain ⟨z, rfl, hz⟩ := int_of (enc := enc) (w := w) f1
  obtain ⟨s, rfl, hs⟩ := str_of (enc := enc) (w := w) L f2 l2
  exact ⟨⟨k, z, s⟩, rfl, hz, hs⟩
theorem row_of (L : LimOk Lim M) {fuel : Nat} {v : Value} {y : DataW H × List MemPlace} (h : Tr enc w fuel 79 [v] y) (hl : Lim 79 y.1) :
    ∃ l : List VV, HoldsV w v l ∧ l.length ≤ M ∧ ∀ x ∈ l, x.inI ∧ x.s.size ≤ M := by
  rcases els_of (enc := enc) L Tryz.underlying79 (of_decide_eq_true (by kernel_rfl)) h hl with rfl | ⟨a, n, c, rfl, hc, hM, hi⟩
  · exact ⟨[], holdsV_nil w, Nat.zero_le _, fun c hc => by cases hc⟩
  obtain ⟨l, hll, hp⟩ := list_of (P := fun i (x : VV) => (w.cell? (a.add (i * 3)) = some (.int .i64 x.k) ∧ w.cell? ⟨(a.add (i * 3)).block, (a.add (i * 3)).off + 1, none⟩ = some (.int .i64 x.n) ∧ w.cell? ⟨(a.add (i * 3)).block, (a.add (i * 3)).off + 2, none⟩ = some (.string x.s)) ∧ x.inI ∧ x.s.size ≤ M) (fun i hil => by
    obtain ⟨m, cs, z, ht, hlz, hcell⟩ := hi i hil
    obtain ⟨c, rfl, h1⟩ := val_of (enc := enc) (w := w) L ht hlz
    rw [cells_val] at hcell
    exact ⟨c, ⟨by simpa using hcell 0 _ rfl, cell_off (by omega) (hcell 1 _ rfl), cell_off (by omega) (hcell 2 _ rfl)⟩, h1⟩)
  refine ⟨l, ⟨some a, c, by rw [hll], by rw [hll]; exact hc, .inr ⟨a, rfl, fun i x hx => (hp i x hx).1⟩⟩, by omega, fun c hc => ?_⟩
  obtain ⟨i, hic⟩ := List.mem_iff_getElem?.1 hc
  exact (hp i c hic).2
theorem one_list {cs : List Value} (h : cs.length = 1) : ∃ a, cs = [a] := by
  match cs, h with
  | [a], _ => exact ⟨a, rfl⟩
theorem rows_of (L : LimOk Lim M) {fuel : Nat} {v : Value} {y : DataW H × List MemPlace} (h : Tr enc w fuel 41 [v] y) (hl : Lim 41 y.1) :
    ∃ ws : List (List VV), RowsH w v ws ∧ ws.length ≤ M ∧ ∀ r ∈ ws, r.length ≤ M ∧ ∀ x ∈ r, x.inI ∧ x.s.size ≤ M := by
  rcases els_of (enc := enc) L Tryz.underlying41 (of_decide_eq_true (by kernel_rfl)) h hl with rfl | ⟨a, n, c, rfl, hc, hM, hi⟩
  · exact ⟨[], ⟨[], Holds.nil w, rfl, fun i u r hu => by simp at hu⟩, Nat.zero_le _, fun c hc => by cases hc⟩
  obtain ⟨l, hll, hp⟩ := list_of (P := fun i (q : Value × List VV) => w.cell? (a.add i) = some q.1 ∧ HoldsV w q.1 q.2 ∧ q.2.length ≤ M ∧ ∀ x ∈ q.2, x.inI ∧ x.s.size ≤ M) (fun i hil => by
    obtain ⟨m, cs, z, ht, hlz, hcell⟩ := hi i hil
    have hcl : ∃ u, cs = [u] := by
      rcases open_slice Tryz.underlying79 ht with ⟨h0, _⟩ | ⟨_, _, _, _, _, _, _, h0, _⟩
      · exact ⟨_, h0⟩
      · exact ⟨_, h0⟩
    obtain ⟨u, rfl⟩ := hcl
    obtain ⟨r, h1, h2, h3⟩ := row_of (enc := enc) (w := w) L ht hlz
    rw [cells_row] at hcell
    exact ⟨(u, r), by simpa using hcell 0 _ rfl, h1, h2, h3⟩)
  refine ⟨l.map (·.2), ⟨l.map (·.1), ⟨some a, c, by rw [List.length_map, hll], by rw [List.length_map, hll]; exact hc, .inr ⟨a, rfl, fun i u hu => ?_⟩⟩, by simp, fun i u r hu hr => ?_⟩, by rw [List.length_map]; omega, fun r hr => ?_⟩
  · rw [List.getElem?_map] at hu
    obtain ⟨q, hq, rfl⟩ := Option.map_eq_some_iff.1 hu
    exact (hp i q hq).1
  · rw [List.getElem?_map] at hu hr
    obtain ⟨q, hq, rfl⟩ := Option.map_eq_some_iff.1 hu
    rw [hq] at hr
    simp at hr
    subst hr
    exact (hp i q hq).2.1
  · obtain ⟨q, hq, rfl⟩ := List.mem_map.1 hr
    obtain ⟨i, hic⟩ := List.mem_iff_getElem?.1 hq
    exact (hp i q hic).2.2
end
end Go.Proofs.YtehfoaicohnpfaaGreatDoor
/- Records that came in: whole records, rows of records; sizes. Conditions: as stated. -/
set_option maxRecDepth 100000
namespace Go.Proofs.YtehfoaicohnpfaaGreatDoor
open Go.ChangeShapes Go.WideShapes Go.ChangeAt Go.RowKit Go.Maps Go.Sort Go.Deep Go.Joins Go.Lib

/-- the parts' sizes -/
structure Sizes (M : Nat) (x : RV) : Prop where
  t1 : x.nm.size ≤ M
  t2 : x.tn.size ≤ M
  t3 : x.rn.size ≤ M
  t4 : x.rt.size ≤ M
  tc : x.tc.length ≤ M
  rd : x.rd.length ≤ M
  rm : x.rm.length ≤ M
  ws : x.ws.length ≤ M
  wl : ∀ r ∈ x.ws, r.length ≤ M
  s1 : ∀ c ∈ x.tc, fTc c ≤ M
  s2 : ∀ c ∈ x.rd, fRd c ≤ M
  s3 : ∀ c ∈ x.rm, fRm c ≤ M
  s4 : ∀ r ∈ x.ws, ∀ v ∈ r, fVs v ≤ M
section
variable {H : Type} {enc : TypeId × Value → H} {w : World} {Lim : TypeId → DataW H → Prop} {M : Nat}
theorem nine_list {cs : List Value} (h : cs.length = 9) : ∃ a b c d e f g k l, cs = [a, b, c, d, e, f, g, k, l] := by
  match cs, h with
  | [a, b, c, d, e, f, g, k, l], _ => exact ⟨a, b, c, d, e, f, g, k, l, rfl⟩
theorem rec_of (L : LimOk Lim M) {fuel : Nat} {cs : List Value} {y : DataW H × List MemPlace} (h : Tr enc w fuel 43 cs y) (hl : Lim 43 y.1) :
    ∃ (x : RV) (a b c d : Value), cs = rcells (x, a, b, c, d) ∧ RecH w x a b c d ∧ x.inI ∧ Sizes M x := by
  obtain ⟨xs, n, _, ex, hlen, hxl, hf⟩ := DataW.trod_struct Tryz.underlying43 h
  rw [cells_rec] at hlen
  obtain ⟨u0, u1, u2, u3, u4, u5, u6, u7, u8, rfl⟩ := nine_list hlen
  have f0 : DataW.trod enc Tryz.prog w 0 (fun _ => true) true n 3 (([u0, u1, u2, u3, u4, u5, u6, u7, u8].drop 0).take (Tryz.prog.cellsOf 3)) = xs[0]? := hf 0 _ rfl
  have f1 : DataW.trod enc Tryz.prog w 0 (fun _ => true) true n 36 (([u0, u1, u2, u3, u4, u5, u6, u7, u8].drop 1).take (Tryz.prog.cellsOf 36)) = xs[1]? := hf 1 _ rfl
  have f2 : DataW.trod enc Tryz.prog w 0 (fun _ => true) true n 40 (([u0, u1, u2, u3, u4, u5, u6, u7, u8].drop 3).take (Tryz.prog.cellsOf 40)) = xs[2]? := hf 2 _ rfl
  have f3 : DataW.trod enc Tryz.prog w 0 (fun _ => true) true n 9 (([u0, u1, u2, u3, u4, u5, u6, u7, u8].drop 7).take (Tryz.prog.cellsOf 9)) = xs[3]? := hf 3 _ rfl
  have f4 : DataW.trod enc Tryz.prog w 0 (fun _ => true) true n 41 (([u0, u1, u2, u3, u4, u5, u6, u7, u8].drop 8).take (Tryz.prog.cellsOf 41)) = xs[4]? := hf 4 _ rfl
  rw [cells_int] at f0
  rw [cells_tab] at f1
  rw [cells_rol] at f2
  rw [cells_str] at f3
  rw [cells_rows] at f4
  rw [ex] at hl
  obtain ⟨z0, x0⟩ : ∃ z, xs[0]? = some z := ⟨_, List.getElem?_eq_getElem (l := xs) (i := 0) (by rw [hxl]; decide)⟩
  rw [x0] at f0
  have l0 := L.agg _ _ _ 0 _ z0.1 Tryz.underlying43 hl rfl (by rw [List.getElem?_map, x0]; rfl)
  obtain ⟨z1, x1⟩ : ∃ z, xs[1]? = some z := ⟨_, List.getElem?_eq_getElem (l := xs) (i := 1) (by rw [hxl]; decide)⟩
  rw [x1] at f1
  have l1 := L.agg _ _ _ 1 _ z1.1 Tryz.underlying43 hl rfl (by rw [List.getElem?_map, x1]; rfl)
  obtain ⟨z2, x2⟩ : ∃ z, xs[2]? = some z := ⟨_, List.getElem?_eq_getElem (l := xs) (i := 2) (by rw [hxl]; decide)⟩
  rw [x2] at f2
  have l2 := L.agg _ _ _ 2 _ z2.1 Tryz.underlying43 hl rfl (by rw [List.getElem?_map, x2]; rfl)
  obtain ⟨z3, x3⟩ : ∃ z, xs[3]? = some z := ⟨_, List.getElem?_eq_getElem (l := xs) (i := 3) (by rw [hxl]; decide)⟩
  rw [x3] at f3
  have l3 := L.agg _ _ _ 3 _ z3.1 Tryz.underlying43 hl rfl (by rw [List.getElem?_map, x3]; rfl)
  obtain ⟨z4, x4⟩ : ∃ z, xs[4]? = some z := ⟨_, List.getElem?_eq_getElem (l := xs) (i := 4) (by rw [hxl]; decide)⟩
  rw [x4] at f4
  have l4 := L.agg _ _ _ 4 _ z4.1 Tryz.underlying43 hl rfl (by rw [List.getElem?_map, x4]; rfl)
  obtain ⟨k, rfl, _⟩ := int_of (enc := enc) (w := w) f0
  obtain ⟨tn, tc, a, e1, g1, g2, g3, g4⟩ := tab_of (enc := enc) (w := w) (cs := [u1, u2]) L f1 l1
  obtain ⟨rn, rt, rd, rm, b, c, e2, j1, j2, j3, j4, ⟨j5, j6⟩, j7, j8⟩ := rol_of (enc := enc) (w := w) (cs := [u3, u4, u5, u6]) L f2 l2
  obtain ⟨nm, rfl, hs⟩ := str_of (enc := enc) (w := w) L f3 l3
  obtain ⟨ws, k1, k2, k3⟩ := rows_of (enc := enc) (w := w) L f4 l4
  simp only [List.cons.injEq, and_true] at e1 e2
  obtain ⟨rfl, rfl⟩ := e1
  obtain ⟨rfl, rfl, rfl, rfl⟩ := e2
  exact ⟨⟨k, tn, tc, rn, rt, rd, rm, nm, ws⟩, u2, u5, u6, u8, rfl, ⟨g1, j1, j2, k1⟩, ⟨fun c hc => (g4 c hc).2, fun m hm => (j8 m hm).2, fun r hr v hv => ((k3 r hr).2 v hv).1⟩,
    ⟨hs, g2, j3, j4, g3, j5, j7, k2, fun r hr => (k3 r hr).1, fun c hc => (g4 c hc).1, j6, fun m hm => (j8 m hm).1, fun r hr v hv => ((k3 r hr).2 v hv).2⟩⟩
/-- rows of records that came in -/
structure RecsH (M : Nat) (w : World) (v : Value) (qs : List RQ) : Prop where
  form : (v = .slice none 0 0 ∧ qs = []) ∨ ∃ (a : Addr) (c : Nat), v = .slice (some a) qs.length c ∧ qs.length ≤ c ∧ ∀ i q, qs[i]? = some q → ∀ j u, (rcells q)[j]? = some u → w.cell? (a.add (i * 9 + j)) = some u
  all : ∀ q ∈ qs, RecH w q.1 q.2.1 q.2.2.1 q.2.2.2.1 q.2.2.2.2 ∧ q.1.inI ∧ Sizes M q.1
theorem recs_of (L : LimOk Lim M) {fuel : Nat} {v : Value} {y : DataW H × List MemPlace} (h : Tr enc w fuel 25 [v] y) (hl : Lim 25 y.1) :
    ∃ qs : List RQ, RecsH M w v qs ∧ qs.length ≤ M := by
  rcases els_of (enc := enc) L Tryz.underlying25 (of_decide_eq_true (by kernel_rfl)) h hl with rfl | ⟨a, n, c, rfl, hc, hM, hi⟩
  · exact ⟨[], ⟨.inl ⟨rfl, rfl⟩, fun c hc => by cases hc⟩, Nat.zero_le _⟩
  obtain ⟨l, hll, hp⟩ := list_of (P := fun i (q : RQ) => (∀ j u, (rcells q)[j]? = some u → w.cell? (a.add (i * 9 + j)) = some u) ∧ RecH w q.1 q.2.1 q.2.2.1 q.2.2.2.1 q.2.2.2.2 ∧ q.1.inI ∧ Sizes M q.1) (fun i hil => by
    obtain ⟨m, cs, z, ht, hlz, hcell⟩ := hi i hil
    obtain ⟨x, p, q, r, s, rfl, h1⟩ := rec_of (enc := enc) (w := w) L ht hlz
    rw [cells_rec] at hcell
    exact ⟨(x, p, q, r, s), hcell, h1⟩)
  refine ⟨l, ⟨.inr ⟨a, c, by rw [hll], by omega, fun i q hq => (hp i q hq).1⟩, fun q hq => ?_⟩, by omega⟩
  obtain ⟨i, hic⟩ := List.mem_iff_getElem?.1 hq
  exact (hp i q hic).2
end
theorem Sizes.fits {M : Nat} (hM : M ≤ 281474976710656) {x : RV} (h : Sizes M x) (hg : goodR x = true) : Fits x := by
  have t : ∀ {n : Nat}, n ≤ M → n ≤ 281474976710656 := fun g => Nat.le_trans g hM
  rcases good_shape hg with ⟨e, h1, h2⟩ | ⟨e, h1, h2⟩ | ⟨e, h1⟩
  · have e2 : x.rd = [] := by rw [e]; rfl
    have e3 : x.rm = [] := by rw [e]; rfl
    have e4 : x.ws = [] := by rw [e]; rfl
    exact ⟨h2, by rw [e2]; decide, by rw [e3]; decide, by rw [e4]; decide, fun r hr => by (rw [e4] at hr; cases hr), t h.t1, t h.t2, t h.t3, t h.t4, fun c hc => t (h.s1 c hc), fun c hc => t (h.s2 c hc), fun c hc => t (h.s3 c hc), fun r hr v hv => t (h.s4 r hr v hv)⟩
  · have e2 : x.tc = [] := by rw [e]; rfl
    have e4 : x.ws = [] := by rw [e]; rfl
    exact ⟨by rw [e2]; decide, h1, h2, by rw [e4]; decide, fun r hr => by (rw [e4] at hr; cases hr), t h.t1, t h.t2, t h.t3, t h.t4, fun c hc => t (h.s1 c hc), fun c hc => t (h.s2 c hc), fun c hc => t (h.s3 c hc), fun r hr v hv => t (h.s4 r hr v hv)⟩
  · have e2 : x.tc = [] := by rw [e]; rfl
    have e3 : x.rd = [] := by rw [e]; rfl
    have e4 : x.rm = [] := by rw [e]; rfl
    obtain ⟨n, n1, n8, w1, w2, hr⟩ := bat_iff.1 h1
    exact ⟨by rw [e2]; decide, by rw [e3]; decide, by rw [e4]; decide, w2, fun r hrm => by (have := (hr r hrm).1; omega), t h.t1, t h.t2, t h.t3, t h.t4, fun c hc => t (h.s1 c hc), fun c hc => t (h.s2 c hc), fun c hc => t (h.s3 c hc), fun r hr v hv => t (h.s4 r hr v hv)⟩
theorem Sizes.fit {M : Nat} (hM : M ≤ 281474976710656) {x : RV} (h : Sizes M x) : x.fit := ⟨Nat.le_trans h.tc (by omega), Nat.le_trans h.rd (by omega), Nat.le_trans h.rm (by omega), Nat.le_trans h.ws (by omega)⟩
theorem Sizes.len {M : Nat} (hM : M ≤ 281474976710656) {x : RV} (h : Sizes M x) : x.tc.length ≤ 9223372036854775807 ∧ x.rd.length ≤ 9223372036854775807 ∧ x.rm.length ≤ 9223372036854775807 ∧ x.ws.length ≤ 9223372036854775807 ∧ ∀ r ∈ x.ws, r.length ≤ 9223372036854775807 :=
  ⟨Nat.le_trans h.tc (by omega), Nat.le_trans h.rd (by omega), Nat.le_trans h.rm (by omega), Nat.le_trans h.ws (by omega), fun r hr => Nat.le_trans (h.wl r hr) (by omega)⟩
theorem Sizes.tot {M : Nat} {x : RV} (h : Sizes M x) (hf : Fits x) : tot4 x ≤ 2000 + 1700 * M := by
  have a1 := Nat.le_trans (szS_all x.tc h.s1) (Nat.mul_le_mul_right _ hf.tc)
  have a2 := Nat.le_trans (szS_all x.rd h.s2) (Nat.mul_le_mul_right _ hf.rd)
  have a3 := Nat.le_trans (szS_all x.rm h.s3) (Nat.mul_le_mul_right _ hf.rm)
  have a4 := Nat.le_trans (szS_all (f := fW) (M := 9 + 8 * M) x.ws (fun r hr => by
    have b1 := Nat.le_trans (szS_all r (h.s4 r hr)) (Nat.mul_le_mul_right _ (hf.wl r hr))
    have b2 := hf.wl r hr
    unfold fW
    omega)) (Nat.mul_le_mul_right _ hf.ws)
  have t1 := h.t1
  have t2 := h.t2
  have t3 := h.t3
  have t4 := h.t4
  have l1 := hf.tc
  have l2 := hf.rd
  have l3 := hf.rm
  unfold tot4 tot0
  omega

/-- a good record's bytes -/
theorem good_bytes {x : RV} (hg : goodR x = true) (hi : x.inI) (hf : Fits x) : (bytR x).length ≤ tot4 x + 162144 := by
  have t1 := hf.t1
  have t2 := hf.t2
  have t3 := hf.t3
  have t4 := hf.t4
  have hk := inL_len x.k
  unfold tot4 tot0
  unfold bytR
  rw [List.length_append]
  have hd : ∀ n : Nat, n ≤ 1000000000 → (dig n).length ≤ 10 := fun n hn => dig_len10 (by omega)
  rcases good_shape hg with ⟨e, h1, h2⟩ | ⟨e, h1, h2⟩ | ⟨e, h1⟩
  · have ek : x.k = 1 := by rw [e]; rfl
    have eb : bodL x = tabL x := by unfold bodL; rw [if_pos ek]
    have a1 := many_sum (e := colL) (f := fTc) (k := 20) x.tc (fun c hc => by
      have b1 := txL_le c.1 (by have := hf.s1 c hc; unfold fTc at this; omega)
      have b2 := inL_len c.2
      unfold colL fTc
      rw [List.length_append]
      omega)
    have a2 := txL_le x.tn (by omega)
    have a3 := hd x.tc.length (by omega)
    rw [eb]
    unfold tabL
    simp only [List.length_append]
    omega
  · have ek : x.k = 2 := by rw [e]; rfl
    have eb : bodL x = rolL x := by unfold bodL; rw [if_neg (by omega), if_pos ek]
    have a1 := many_sum (e := txL) (f := fRd) (k := 10) x.rd (fun c hc => by
      have b1 := txL_le c (by have := hf.s2 c hc; unfold fRd at this; omega)
      unfold fRd
      omega)
    have a2 := many_sum (e := meaL) (f := fRm) (k := 20) x.rm (fun c hc => by
      have b1 := txL_le c.2 (by have := hf.s3 c hc; unfold fRm at this; omega)
      have b2 := inL_len c.1
      unfold meaL fRm
      rw [List.length_append]
      omega)
    have a3 := txL_le x.rn (by omega)
    have a4 := txL_le x.rt (by omega)
    have a5 := hd x.rd.length (by omega)
    have a6 := hd x.rm.length (by omega)
    rw [eb]
    unfold rolL
    simp only [List.length_append]
    omega
  · have ek : x.k = 3 := by rw [e]; rfl
    have eb : bodL x = batL x := by unfold bodL; rw [if_neg (by omega), if_neg (by omega)]
    obtain ⟨n, n1, n8, w1, w2, hr⟩ := bat_iff.1 h1
    have a1 := many_sum (e := rowL) (f := fW) (k := 180) x.ws (fun r hrm => by
      have hrl := (hr r hrm).1
      have b1 := flat_len r (fun v hv => ⟨(hr r hrm).2 v hv, hi.ws r hrm v hv⟩)
      have b2 := hd r.length (by omega)
      have b4 := Nat.le_trans (szS_all r (hf.s4 r hrm)) (Nat.mul_le_mul_right _ (show r.length ≤ 8 by omega))
      have b5 : (bytesV r).length < 18446744073709551616 := by unfold bytesV; rw [List.length_append]; omega
      have b3 := dig_len10 b5
      unfold rowL blL fW
      rw [List.length_append]
      unfold bytesV at *
      rw [List.length_append] at *
      omega)
    have a2 := txL_le x.nm (by omega)
    have a3 := hd x.ws.length (by omega)
    rw [eb]
    unfold batL
    simp only [List.length_append]
    omega

end Go.Proofs.YtehfoaicohnpfaaGreatDoor
/- What the laws of records build: rows of records, bytes, logs. Conditions: as stated. -/
set_option maxRecDepth 100000
namespace Go.Proofs.YtehfoaicohnpfaaGreatDoor
open Go.ChangeShapes Go.WideShapes Go.RowKit Go.Maps Go.Sort Go.Lib

theorem rcells_len (q : RQ) : (rcells q).length = 9 := rfl
theorem fl9_len (l : List RQ) : (fl9 l).length = l.length * 9 := by
  induction l with
  | nil => rfl
  | cons x r ih => simp [fl9, rcells] at ih ⊢; omega
theorem fl9_at : ∀ (l : List RQ) (i : Nat) (q : RQ), l[i]? = some q → ∀ j u, (rcells q)[j]? = some u → (fl9 l)[i * 9 + j]? = some u
  | [], i, q, h => by simp at h
  | p :: r, 0, q, h => by
    simp at h
    subst h
    intro j u hu
    have hj : j < 9 := by rw [← rcells_len p]; exact (List.getElem?_eq_some_iff.1 hu).1
    unfold fl9
    rw [List.flatMap_cons, List.getElem?_append_left (by rw [rcells_len]; omega), Nat.zero_mul, Nat.zero_add]
    exact hu
  | p :: r, i + 1, q, h => by
    intro j u hu
    have := fl9_at r i q (by simpa using h) j u hu
    unfold fl9 at this ⊢
    rw [List.flatMap_cons, List.getElem?_append_right (by rw [rcells_len]; omega), rcells_len, show (i + 1) * 9 + j - 9 = i * 9 + j by omega]
    exact this
theorem fl9_cell (l : List RQ) (k : Nat) (u : Value) (h : (fl9 l)[k]? = some u) : ∃ q, l[k / 9]? = some q ∧ (rcells q)[k % 9]? = some u := by
  have hk : k < l.length * 9 := by rw [← fl9_len]; exact (List.getElem?_eq_some_iff.1 h).1
  have hi : k / 9 < l.length := by omega
  have e := List.getElem?_eq_getElem hi
  have hj : k % 9 < (rcells l[k / 9]).length := by rw [rcells_len]; omega
  have := fl9_at l _ _ e (k % 9) _ (List.getElem?_eq_getElem hj)
  rw [show k / 9 * 9 + k % 9 = k by omega, h] at this
  exact ⟨_, e, by rw [List.getElem?_eq_getElem hj]; exact this.symm⟩
def oneR (q : RQ) : Prop := ∀ u ∈ rcells q, u.oneCell' = true
theorem RecH.oneR {w : World} {q : RQ} (h : RecH w q.1 q.2.1 q.2.2.1 q.2.2.2.1 q.2.2.2.2) : oneR q := by
  obtain ⟨x, a, b, c, d⟩ := q
  obtain ⟨a1, ac, b1, bc, c1, cc, d1, dc, e1, e2, e3, e4⟩ := h.form
  simp only at e1 e2 e3 e4
  subst e1 e2 e3 e4
  intro u hu
  simp [rcells] at hu
  rcases hu with rfl | rfl | rfl | rfl | rfl | rfl | rfl | rfl | rfl <;> rfl
theorem fl9_one {l : List RQ} (h : ∀ q ∈ l, oneR q) : ∀ u ∈ fl9 l, u.oneCell' = true := fun u hu => by
  obtain ⟨q, hq, hu⟩ := List.mem_flatMap.1 hu
  exact h q hq u hu
theorem RecsH.below {M : Nat} {w w' : World} {v : Value} {qs : List RQ} (h : RecsH M w v qs) (hb : Below w.heap.size w w') : RecsH M w' v qs := by
  refine ⟨?_, fun q hq => ⟨(h.all q hq).1.below hb, (h.all q hq).2⟩⟩
  rcases h.form with h1 | ⟨a, c, h1, h2, h3⟩
  · exact .inl h1
  · exact .inr ⟨a, c, h1, h2, fun i q hq j u hu => kept_below hb _ _ (h3 i q hq j u hu)⟩
/-- where the records of a row of the call's own lie -/
theorem recsH_own {M : Nat} {w : World} {B : Nat} {v : Value} {qs : List RQ} (h : w.ownsRow B 43 9 v qs.length (fl9 qs)) (ha : ∀ q ∈ qs, RecH w q.1 q.2.1 q.2.2.1 q.2.2.2.1 q.2.2.2.2 ∧ q.1.inI ∧ Sizes M q.1) : RecsH M w v qs := by
  refine ⟨?_, ha⟩
  rcases h.2 with ⟨e, hn⟩ | ⟨g, cap, cur, e, _, hg, hc, _⟩
  · exact .inl ⟨e, List.eq_nil_of_length_eq_zero hn⟩
  · subst e
    refine .inr ⟨_, _, rfl, hc, fun i q hq j u hu => ?_⟩
    exact h.cells (g := g) rfl _ _ (fl9_at qs i q hq j u hu)
/-- append(row of the call's own, records that came in ..) -/
theorem app_recs {M : Nat} {W : World} {B : Nat} {v sv : Value} {xs : List RQ} {qs : List RQ} (ho : W.ownsRow B 43 9 v xs.length (fl9 xs)) (hB : B ≤ W.heap.size) (h : RecsH M W sv qs) (h1 : xs.length + qs.length ≤ 10000000) :
    ∃ v' W', (∀ ty, (Builtin.append_ #[25, 25] ty #[v, sv]).run Tryz.prog W = .ok v' W') ∧ W'.ownsRow B 43 9 v' (xs ++ qs).length (fl9 (xs ++ qs)) ∧ W.grownBy W' v.ownBlock := by
  obtain ⟨i, hi, hz0, hz1, hz2⟩ := info_parts info_rec
  rcases h.form with ⟨rfl, rfl⟩ | ⟨a, c, rfl, hc, hcell⟩
  · obtain ⟨va, vc, rfl, hvc⟩ := ownsRow_form ho
    refine ⟨_, W, fun ty => append_nilsrc _ _ ty _ i Tryz.underlying25 hi va xs.length vc 0 hvc.1, ?_, ⟨rfl, rfl, rfl, Nat.le_refl _, fun _ _ _ => rfl⟩⟩
    rw [List.append_nil]
    exact ho
  · obtain ⟨v', W', hr, h2, h3, _, _⟩ := run_append_own_at (P := Tryz.prog) (w := W) B 25 0 43 i _ 9 168 Tryz.underlying25 hi hz0 hz1 hz2 rfl (by omega) v xs.length (fl9 xs) ho a qs.length c (fl9 qs) (fl9_len qs) (fun k u hu => by
      obtain ⟨q, e1, e2⟩ := fl9_cell qs k u hu
      have := hcell _ _ e1 _ _ e2
      rwa [show k / 9 * 9 + k % 9 = k by omega] at this) (fl9_one fun q hq => (h.all q hq).1.oneR) (by unfold maxLen; omega) (by omega) hB
    refine ⟨v', W', fun ty => hr, ?_, h3⟩
    rw [List.length_append]
    have e : fl9 (xs ++ qs) = fl9 xs ++ fl9 qs := by simp [fl9]
    rw [e]
    exact h2
/-- a record in a block of its own, as a row of one -/
theorem one_rec {M : Nat} {W : World} {k : Nat} {q : RQ} (hk : W.heap[k]? = some (.cells (rcells q).toArray 43 (0, 0))) (h : RecH W q.1 q.2.1 q.2.2.1 q.2.2.2.1 q.2.2.2.2 ∧ q.1.inI ∧ Sizes M q.1) : RecsH M W (.slice (some ⟨k, 0, none⟩) 1 1) [q] := by
  refine ⟨.inr ⟨_, 1, rfl, Nat.le_refl _, fun i p hp j u hu => ?_⟩, fun p hp => ?_⟩
  · rcases Nat.eq_zero_or_pos i with rfl | hi
    · simp at hp
      subst hp
      rw [Nat.zero_mul, Nat.zero_add, Addr.add_at, Nat.zero_add, cell_of_row _ _ _ _ _ _ hk]
      simpa using hu
    · rw [List.getElem?_eq_none (by simp; omega)] at hp
      cases hp
  · rw [List.mem_singleton] at hp
    subst hp
    exact h
/-- append(append([]Record{}, l...), r), in the three orders that may be drawn -/
def RowEnd (M : Nat) (W : World) (qs : List RQ) (v3 : Value) (W3 : World) : Prop := Below W.heap.size W W3 ∧ RecsH M W3 v3 qs
section
variable {M : Nat} {W : World} {v : Value} {qs : List RQ} {q : RQ}
theorem both_at {E : World} {k m : Nat} (hE : Below W.heap.size W E) (ho : E.ownsRow W.heap.size 43 9 (.slice (some ⟨k, 0, none⟩) 0 0) 0 (fl9 [])) (h : RecsH M W v qs) (hl : qs.length ≤ 1048576) :
    ∃ v2 W2, (∀ ty, (Builtin.append_ #[25, 25] ty #[.slice (some ⟨k, 0, none⟩) 0 0, v]).run Tryz.prog E = .ok v2 W2) ∧ W2.ownsRow W.heap.size 43 9 v2 qs.length (fl9 qs) ∧ Below W.heap.size W W2 ∧ (m ≠ k → m < E.heap.size → W2.heap[m]? = E.heap[m]?) := by
  obtain ⟨v2, W2, r, o, g⟩ := app_recs (xs := []) ho hE.size (h.below hE) (by simp; omega)
  rw [List.nil_append] at o
  exact ⟨v2, W2, r, o, hE.trans (below_grown g hE.size (ownsRow_ge ho)), fun hm hlt => g.block m hlt (fun e => hm (by simpa [Value.ownBlock] using e))⟩
theorem last_at {W2 : World} {k : Nat} {v2 : Value} (hb : Below W.heap.size W W2) (ho : W2.ownsRow W.heap.size 43 9 v2 qs.length (fl9 qs)) (hk : W2.heap[k]? = some (.cells (rcells q).toArray 43 (0, 0))) (h : RecsH M W v qs) (hq : RecH W q.1 q.2.1 q.2.2.1 q.2.2.2.1 q.2.2.2.2 ∧ q.1.inI ∧ Sizes M q.1) (hl : qs.length ≤ 1048576) :
    ∃ v3 W3, (∀ ty, (Builtin.append_ #[25, 25] ty #[v2, .slice (some ⟨k, 0, none⟩) 1 1]).run Tryz.prog W2 = .ok v3 W3) ∧ RowEnd M W (qs ++ [q]) v3 W3 := by
  obtain ⟨v3, W3, r, o, g⟩ := app_recs ho hb.size (one_rec hk ⟨hq.1.below hb, hq.2⟩) (by simp; omega)
  have hB := hb.trans (below_grown g hb.size (ownsRow_ge ho))
  refine ⟨v3, W3, r, hB, recsH_own o fun p hp => ?_⟩
  rcases List.mem_append.1 hp with hp | hp
  · exact ⟨(h.all p hp).1.below hB, (h.all p hp).2⟩
  · rw [List.mem_singleton] at hp
    subst hp
    exact ⟨hq.1.below hB, hq.2⟩
end
/-- a copy of bytes, and others behind it -/
theorem copy_more {w : World} {v : Value} {l : List UInt8} (h : Holds w v (u8s l)) (hl : l.length ≤ 1000000) :
    ∃ v2 w2, Hid (∀ ty, (Builtin.append_ #[22, 22] ty #[.slice (some ⟨w.heap.size, 0, none⟩) 0 0, v]).run Tryz.prog (w.alloc (.cells #[] 5)) = .ok v2 w2) ∧ w2.ownsRow w.heap.size 5 1 v2 l.length (u8s l) ∧ Below w.heap.size w w2 := by
  have hb1 := below_o w (.cells #[] 5)
  have hr1 := World.ownsRow_made w (base := w.heap.size) (e := 5) (size := 1) #[] 0 (Nat.le_refl _) (by unfold maxLen; omega) (by simp)
  obtain ⟨v2, w2, r, o, g, b⟩ := app8 (xs := []) hr1 hb1.size (h.below hb1) (by simp; omega)
  rw [List.nil_append] at o
  exact ⟨v2, w2, Lib.hid r, o, hb1.trans (below_grown g hb1.size (fun k e => by simp [Value.ownBlock] at e; omega))⟩
theorem more_at {w w2 : World} {v2 sv : Value} {l m : List UInt8} (ho : w2.ownsRow w.heap.size 5 1 v2 l.length (u8s l)) (hb : Below w.heap.size w w2) (hs : Holds w2 sv (u8s m)) (hl : l.length ≤ 1000000) (hm : m.length ≤ 1000000) :
    ∃ v3 w3, Hid (∀ ty, (Builtin.append_ #[22, 22] ty #[v2, sv]).run Tryz.prog w2 = .ok v3 w3) ∧ w3.ownsRow w.heap.size 5 1 v3 (l ++ m).length (u8s (l ++ m)) ∧ Below w.heap.size w w3 := by
  obtain ⟨v3, w3, r, o, g, _⟩ := app8 ho hb.size hs (by omega)
  exact ⟨v3, w3, Lib.hid r, o, hb.trans (below_grown g hb.size (ownsRow_ge ho))⟩
/-- the frames of records, one behind the other -/
def logL (xs : List RV) : List UInt8 := manyL (fun x => frameL (bytR x)) xs
def WhR (x : RV) : Prop := goodR x = true ∧ x.inI ∧ (bytR x).length ≤ 262144
theorem first_frame {x : RV} (h : WhR x) (ext : List UInt8) : firstR (frameL (bytR x) ++ ext) = some (x, (frameL (bytR x)).length) := by
  unfold firstR
  rw [unf_frame h.2.2]
  simp only [Option.bind_some]
  rw [(loadR_iff (by have := h.2.2; omega)).2 ⟨h.1, h.2.1, h.2.2, rfl⟩]
  simp [frameL_len]
theorem first_short {l : List UInt8} (h : l.length < 8) : firstR l = none := by
  cases e : firstR l with
  | none => rfl
  | some q => have := firstR_len (show firstR l = some (q.1, q.2) from e); omega
theorem scan_log : ∀ (xs : List RV) (ext : List UInt8), (∀ x ∈ xs, WhR x) → firstR ext = none → scanL (logL xs ++ ext) = (xs, (logL xs).length)
  | [], ext, _, h => by
    have : logL [] = [] := rfl
    rw [this, List.nil_append]
    exact scan_stop h
  | x :: r, ext, hx, h => by
    have e : logL (x :: r) ++ ext = frameL (bytR x) ++ (logL r ++ ext) := by unfold logL; rw [manyL_cons, List.append_assoc]
    have h1 := first_frame (hx x (List.mem_cons_self ..)) (logL r ++ ext)
    have ih := scan_log r ext (fun y hy => hx y (List.mem_cons_of_mem _ hy)) h
    rw [e, scan_step h1, List.drop_left, ih]
    unfold logL
    rw [manyL_cons, List.length_append]
theorem log_len : ∀ (xs : List RV), xs.length * 8 ≤ (logL xs).length
  | [] => by simp [logL, manyL]
  | x :: r => by
    have := log_len r
    unfold logL at *
    rw [manyL_cons, List.length_append, frameL_len, List.length_cons]
    omega
theorem log_snoc (xs : List RV) (x : RV) : logL (xs ++ [x]) = logL xs ++ frameL (bytR x) := by unfold logL; rw [manyL_snoc]
/-- Scan at what was built -/
theorem scan_built {w : World} (hqd : Quads w) {p0 : Option Addr} {n k0 id : Nat} {xs : List RV} {ext HD : List UInt8} (hH : headL id = HD) (h : Holds w (.slice p0 n k0) (u8s ((HD ++ logL xs) ++ ext))) (hl : ((HD ++ logL xs) ++ ext).length ≤ 1000000) (hid : id < 18446744073709551616) (hx : ∀ x ∈ xs, WhR x) (he : firstR ext = none) :
    Calls Tryz.prog 5 #[.slice p0 n k0, .int .u64 (id : Int)] w fun e w' => ∃ a c, e = .returned (.tuple #[.slice a xs.length c, .int .i64 ((HD ++ logL xs).length : Int), .bool true]) ∧ Below w.heap.size w w' := by
  subst hH
  refine (scan_any hqd h hl id hid).mono ?_
  have hp : (headL id).isPrefixOf ((headL id ++ logL xs) ++ ext) = true := by
    rw [List.isPrefixOf_iff_prefix, List.append_assoc]
    exact List.prefix_append _ _
  have hd : ((headL id ++ logL xs) ++ ext).drop (headL id).length = logL xs ++ ext := by rw [List.append_assoc, List.drop_left]
  rintro e w' ⟨hb, ⟨_, qs, v, h1, rfl, h2⟩ | ⟨h1, _⟩⟩
  · rw [hd, scan_log xs ext hx he] at *
    obtain ⟨a, c, hv, _⟩ := ownsRow_form h2.row
    have hq : qs.length = xs.length := by rw [← List.length_map (f := fun q : RQ => q.1), h1]
    rw [hq] at hv
    subst hv
    exact ⟨a, c, by rw [List.length_append], hb⟩
  · rw [hp] at h1; cases h1
end Go.Proofs.YtehfoaicohnpfaaGreatDoor
/- The table of Sum: from the row's condition to its cells, and a world that meets the condition. Conditions: none. -/
set_option maxRecDepth 100000
namespace Go.Proofs.YtehfoaicohnpfaaGreatDoor
open Go.ChangeShapes Go.WideShapes Go.ChangeAt Go.RowKit

theorem own : ownKnob Tryz.prog.godebug = none := by kernel_rfl
theorem laidOut : laidOutB Tryz.prog = true := by kernel_rfl
abbrev laidQ : List (String × DataW Unit) := [("talus/codec.quads", Rows.laid_talus_codec_quads)]

theorem quads_of_laid {W : World} (h : laidMetH Tryz.prog laidQ W) : Quads W := by
  rw [MakeChecks.laidMetH_plain _ _ _ (by kernel_rfl)] at h
  obtain ⟨ps, ⟨g, t, cs, fuel, p, q, hg, ht, hv, hd, _, _⟩, _, _⟩ := h
  obtain rfl := Option.some.inj ((show Tryz.prog.globalNamed "talus/codec.quads" = some 0 by kernel_rfl).symm.trans hg)
  obtain rfl := Option.some.inj ((show (Tryz.prog.globals[0]?).map (·.type) = some 105 by kernel_rfl).symm.trans ht)
  obtain ⟨xs, m, _, ex, _, hl, hel⟩ := DataW.trod_array Tryz.underlying105 hd
  have c5 : Tryz.prog.cellsOf 69 = 1 := by kernel_rfl
  have key : ∀ r, r < 16 → W.cell? ⟨0, r, none⟩ = some (.int .u32 (quad r : Int)) := by
    intro r hr
    have hE := hel r hr
    rw [c5, Nat.mul_one, List.getElem?_eq_getElem (by omega)] at hE
    obtain ⟨z, e1, e2, _⟩ := DataW.trod_int Tryz.underlying69 hE
    have hlen : quadL.length = 16 := by decide
    have e3 : (xs.map (·.1)) = quadL.map fun (n : Nat) => (.lit (.int .u32 (n : Int)) : DataW Unit) := (DataW.agg.inj (Prod.mk.inj ex).1).symm
    have e4 : (xs.map (·.1))[r]? = (quadL.map fun (n : Nat) => (DataW.lit (.int .u32 (n : Int)) : DataW Unit))[r]? := by rw [e3]
    rw [List.getElem?_map, List.getElem?_map, List.getElem?_eq_getElem (by omega : r < xs.length), List.getElem?_eq_getElem (by omega : r < quadL.length), e2] at e4
    have hz : z = (quad r : Int) := by
      simp only [Option.map_some, Option.some.injEq, DataW.lit.injEq, Lit.int.injEq, true_and] at e4
      rw [e4, quad, List.getD, List.getElem?_eq_getElem (by omega : r < quadL.length)]; rfl
    rw [World.var?_cell hg hv r, ← hz]
    have : cs.toList[r]? = some (.int .u32 z) := by
      have h0 : ((cs.toList.drop r).take 1)[0]? = some (.int .u32 z) := by rw [e1]; rfl
      simpa using h0
    simpa using this
  exact ⟨World.block_lt_of_cell? W _ (key 0 (by omega)), key⟩

theorem laid_met (os : Os) (args : Array Value) : laidMetH Tryz.prog laidQ ((World.laidAll Tryz.prog os laidQ).forCall (fun _ _ => 0) ⟨#[], args, []⟩).memory := by
  rw [MakeChecks.laidMetH_plain _ _ _ (by kernel_rfl)]; exact laidMet_laidAll _ (by kernel_rfl) (by kernel_rfl)
end Go.Proofs.YtehfoaicohnpfaaGreatDoor
