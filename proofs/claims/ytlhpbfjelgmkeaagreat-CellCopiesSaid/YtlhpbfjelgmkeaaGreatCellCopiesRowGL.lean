/- The texts CeqArgs CeqA CelI CelL CelM CelN CeqD OwnKnob, one behind the other; each one's own comment says what it holds. -/
import Derived.Test.YtlhpbfjelgmkeaaGreatCellCopiesRowGK
import Derived.Test.YtlhpbfjelgmkeaaGreatCellCopiesRowGC
import Derived.Test.YtlhpbfjelgmkeaaGreatKmvGood
import Derived.ProofKit
import Derived.OpenShut
import Derived.ChangeOld
import Derived.Test.YtlhpbfjelgmkeaaGreatCellCopiesRowGJ
import Derived.Deep.CutBlock
import Derived.Deep.DeepCutAuto
import Derived.Test.YtlhpbfjelgmkeaaGreatGen
import Derived.ChangeSame
/- Arguments opened: what a cell is made of, and rows of values. Conditions: none. -/
set_option maxRecDepth 100000
namespace Go.Proofs.YtlhpbfjelgmkeaaGreat
open Go.ChangeShapes Go.WideShapes Go.ChangeAt Go.RowKit Go.Maps Go.Sort Go.Deep Go.Joins Go.Lib

/-- a slice of rows of values -/
def RowsH (w : World) (v : Value) (ws : List (List VV)) : Prop := ∃ vs, Holds w v vs ∧ vs.length = ws.length ∧ ∀ (i : Nat) (u : Value) (r : List VV), vs[i]? = some u → ws[i]? = some r → HoldsV w u r
theorem RowsH.kept {w w' : World} {v : Value} {ws : List (List VV)} (h : RowsH w v ws) (hc : ∀ (a : Addr) u, w.cell? a = some u → w'.cell? a = some u) : RowsH w' v ws := by
  obtain ⟨vs, h1, h2, h3⟩ := h
  exact ⟨vs, h1.kept hc, h2, fun i u r hu hr => (h3 i u r hu hr).kept hc⟩
theorem RowsH.form {w : World} {v : Value} {ws : List (List VV)} (h : RowsH w v ws) : ∃ a c, v = .slice a ws.length c ∧ ws.length ≤ c := by
  obtain ⟨vs, h1, h2, _⟩ := h
  obtain ⟨a, c, e, hc⟩ := h1.form
  exact ⟨a, c, by rw [← h2]; exact e, by rw [← h2]; exact hc⟩
theorem RowsH.at_ {w : World} {a : Option Addr} {n c : Nat} {ws : List (List VV)} (h : RowsH w (.slice a n c) ws) {i : Nat} {r : List VV} (hr : ws[i]? = some r) : ∃ (ad : Addr) (u : Option Addr) (k : Nat), a = some ad ∧ w.cell? (ad.add i) = some (.slice u r.length k) ∧ HoldsV w (.slice u r.length k) r := by
  obtain ⟨vs, h1, h2, h3⟩ := h
  have hi : i < vs.length := by rw [h2]; exact (List.getElem?_eq_some_iff.1 hr).1
  have hu : vs[i]? = some vs[i] := List.getElem?_eq_getElem hi
  have hv := h3 i _ r hu hr
  obtain ⟨ad, rfl⟩ := h1.ptr (by have := h1.len.1; omega)
  have hc := h1.cell hu
  obtain ⟨u, k, e, _⟩ := hv.form
  rw [e] at hc hv
  exact ⟨ad, u, k, rfl, hc, hv⟩
/-- pairs out of what is known of each place -/
theorem pairs_of {n : Nat} {R : Nat → Nat → Nat → Prop} (h : ∀ i, i < n → ∃ a b, R i a b) : ∃ S : List (Nat × Nat), S.length = n ∧ ∀ i (hi : i < S.length), R i S[i].1 S[i].2 := by
  induction n with
  | zero => exact ⟨[], rfl, fun i hi => by simp at hi⟩
  | succ n ih =>
    obtain ⟨S, hl, hS⟩ := ih (fun i hi => h i (by omega))
    obtain ⟨a, b, hab⟩ := h n (by omega)
    refine ⟨S ++ [(a, b)], by simp [hl], fun i hi => ?_⟩
    by_cases hin : i < S.length
    · rw [List.getElem_append_left hin]; exact hS i hin
    · have e : i = S.length := by simp at hi; omega
      subst e
      rw [List.getElem_append_right (Nat.le_refl _)]
      simpa [hl] using hab
theorem flat_get (S : List (Nat × Nat)) (j : Nat) (u : Value) (h : (flat S)[j]? = some u) : ∃ i, ∃ hi : i < S.length, (j = i * 2 ∧ u = .int .u64 (S[i].1 : Int)) ∨ (j = i * 2 + 1 ∧ u = .int .u64 (S[i].2 : Int)) := by
  have hj : j < 2 * S.length := by rw [← flat_len]; exact (List.getElem?_eq_some_iff.1 h).1
  have hi : j / 2 < S.length := by omega
  obtain ⟨h1, h2⟩ := flat_at S (j / 2) hi
  refine ⟨j / 2, hi, ?_⟩
  rcases (by omega : j = j / 2 * 2 ∨ j = j / 2 * 2 + 1) with e | e
  · rw [← e, h] at h1
    exact .inl ⟨e, Option.some.inj h1⟩
  · rw [← e, h] at h2
    exact .inr ⟨e, Option.some.inj h2⟩

theorem seeds_of {H : Type} {enc : TypeId × Value → H} {w : World} {fuel : Nat} {v : Value} {x : DataW H × List MemPlace}
    (h : DataW.trod enc Tryz.prog w 0 (fun _ => true) true fuel 30 [v] = some x) : ∃ sa n sc S, v = .slice sa n sc ∧ SetAt w sa n sc S := by
  rcases open_structs (Tryz.underlying30) (Tryz.underlying95) (by kernel_rfl) (by kernel_rfl) h with hcs | ⟨a, len, cap, hcs, hlc, hcm, hi⟩
  · simp at hcs
    exact ⟨none, 0, 0, [], hcs, rfl, ⟨Nat.le_refl _, Nat.zero_le _⟩, fun s hs => by simp at hs, fun h0 => by omega⟩
  · simp at hcs
    have hp : ∀ i, i < len → ∃ A B : Nat, w.cell? (a.add (i * 2)) = some (.int .u64 (A : Int)) ∧ w.cell? (a.add (i * 2 + 1)) = some (.int .u64 (B : Int)) ∧ A < 18446744073709551616 ∧ B < 18446744073709551616 := fun i hil => by
      obtain ⟨n, hf⟩ := hi i hil
      obtain ⟨v0, y0, c0, t0⟩ := hf 0 _ rfl
      obtain ⟨v1, y1, c1, t1⟩ := hf 1 _ rfl
      obtain ⟨b0, e0, _, z0⟩ := DataW.trod_int Tryz.underlying43 t0
      obtain ⟨b1, e1, _, z1⟩ := DataW.trod_int Tryz.underlying43 t1
      simp only [List.cons.injEq, and_true] at e0 e1
      subst e0 e1
      have x0 := bounds_of_u64 z0
      have x1 := bounds_of_u64 z1
      refine ⟨b0.toNat, b1.toNat, ?_, ?_, by omega, by omega⟩
      · rw [Int.toNat_of_nonneg x0.1]; exact c0
      · rw [Int.toNat_of_nonneg x1.1]; exact c1
    obtain ⟨S, hl, hS⟩ := pairs_of hp
    refine ⟨some a, len, cap, S, hcs, hl, ⟨hlc, hcm⟩, fun s hs => ?_, fun _ => ⟨a, rfl, fun j u hj => ?_⟩⟩
    · obtain ⟨i, hi', rfl⟩ := List.getElem_of_mem hs
      exact ⟨(hS i hi').2.2.1, (hS i hi').2.2.2⟩
    · obtain ⟨i, hi', ⟨rfl, rfl⟩ | ⟨rfl, rfl⟩⟩ := flat_get S j u hj
      · exact (hS i hi').1
      · exact (hS i hi').2.1
section
variable {H : Type} {enc : TypeId × Value → H} {w : World} {Lim : TypeId → DataW H → Prop} {M : Nat}
theorem three_list {cs : List Value} (h : cs.length = 3) : ∃ a b c, cs = [a, b, c] := by
  match cs, h with
  | [a, b, c], _ => exact ⟨a, b, c, rfl⟩
theorem add_cell0 {a : Addr} {i k : Nat} {u : Value} (h : ∀ j v, ([u] ++ ([] : List Value))[j]? = some v → w.cell? (a.add (i * k + j)) = some v) : w.cell? (a.add (i * k)) = some u := by
  have := h 0 u rfl
  simpa using this
theorem cells_val : Tryz.prog.cellsOf 36 = 3 := by kernel_rfl
theorem cells_row : Tryz.prog.cellsOf 22 = 1 := by kernel_rfl
theorem cells_rows : Tryz.prog.cellsOf 53 = 1 := by kernel_rfl
theorem val_of (L : LimOk Lim M) {fuel : Nat} {cs : List Value} {y : DataW H × List MemPlace} (h : Tr enc w fuel 36 cs y) (hl : Lim 36 y.1) : ∃ v : VV, cs = encV v ∧ v.inI ∧ v.s.size ≤ M := by
  obtain ⟨xs, n, _, ex, hlen, hxl, hf⟩ := DataW.trod_struct Tryz.underlying36 h
  rw [cells_val] at hlen
  obtain ⟨u0, u1, u2, rfl⟩ := three_list hlen
  have f0 : DataW.trod enc Tryz.prog w 0 (fun _ => true) true n 3 (([u0, u1, u2].drop 0).take (Tryz.prog.cellsOf 3)) = xs[0]? := hf 0 _ rfl
  have f1 : DataW.trod enc Tryz.prog w 0 (fun _ => true) true n 3 (([u0, u1, u2].drop 1).take (Tryz.prog.cellsOf 3)) = xs[1]? := hf 1 _ rfl
  have f2 : DataW.trod enc Tryz.prog w 0 (fun _ => true) true n 9 (([u0, u1, u2].drop 2).take (Tryz.prog.cellsOf 9)) = xs[2]? := hf 2 _ rfl
  rw [cells_int] at f0 f1
  rw [cells_str] at f2
  obtain ⟨z0, x0⟩ : ∃ z, xs[0]? = some z := ⟨_, List.getElem?_eq_getElem (l := xs) (i := 0) (by rw [hxl]; decide)⟩
  obtain ⟨z1, x1⟩ : ∃ z, xs[1]? = some z := ⟨_, List.getElem?_eq_getElem (l := xs) (i := 1) (by rw [hxl]; decide)⟩
  obtain ⟨z2, x2⟩ : ∃ z, xs[2]? = some z := ⟨_, List.getElem?_eq_getElem (l := xs) (i := 2) (by rw [hxl]; decide)⟩
  rw [x0] at f0
  rw [x1] at f1
  rw [x2] at f2
  rw [ex] at hl
  have l2 := L.agg _ _ _ 2 _ z2.1 Tryz.underlying36 hl rfl (by rw [List.getElem?_map, x2]; rfl)
  obtain ⟨k, rfl, _⟩ := int_of (enc := enc) (w := w) f0
  obtain ⟨z, rfl, hz⟩ := int_of (enc := enc) (w := w) f1
  obtain ⟨s, rfl, hs⟩ := str_of (enc := enc) (w := w) L f2 l2
  exact ⟨⟨k, z, s⟩, rfl, hz, hs⟩
theorem bytes_val : Tryz.prog.bytesOf 36 = 32 := by kernel_rfl
/-- the elements of a slice that came in -/
theorem els_w {t e : TypeId} {fuel : Nat} {v : Value} {y : DataW H × List MemPlace} (ht : Tryz.prog.underlying t = some (.slice e)) (h : Tr enc w fuel t [v] y) (hl : LimW H t y.1) :
    v = .slice none 0 0 ∨ ∃ (a : Addr) (n c : Nat), v = .slice (some a) n c ∧ n ≤ c ∧ n * Tryz.prog.bytesOf e ≤ 140737488355328 ∧ ∀ i, i < n → ∃ (m : Nat) (cs : List Value) (z : DataW H × List MemPlace), Tr enc w m e cs z ∧ LimW H e z.1 ∧ ∀ j u, cs[j]? = some u → w.cell? (a.add (i * Tryz.prog.cellsOf e + j)) = some u := by
  rcases open_slice ht h with ⟨h0, _⟩ | ⟨a, len, cap, m, n, D, Pl, hcs, _, hc, _, hm, rfl, hi⟩
  · exact .inl (by simpa using h0)
  · simp only [List.cons.injEq, and_true] at hcs
    have l0 := hl _ (by simp only [DataW.weights, ht]; exact List.mem_cons_self ..)
    simp only [List.length_map, List.length_range] at l0
    have l1 : len * Tryz.prog.bytesOf e ≤ 140737488355328 := Nat.le_trans (Nat.mul_le_mul_right _ (Nat.le_add_right _ _)) l0
    have l2 : ∀ d ∈ (List.range len).map (fun i => (D i)), LimW H e d := fun d hd n hn => hl n (by
      simp only [DataW.weights, ht]
      exact List.mem_cons_of_mem _ (List.mem_append_left _ (weights_all hd n hn)))
    refine .inr ⟨a, len, cap, hcs, hc, l1, fun i hil => ?_⟩
    obtain ⟨cs, hcell, htr⟩ := hi i (by rw [hm]; simp; omega)
    refine ⟨n, cs, _, htr, l2 _ (List.mem_map.2 ⟨i, List.mem_range.2 hil, rfl⟩), fun j u hu => ?_⟩
    obtain ⟨_, hlen, hat⟩ := World.cells?_some hcell
    have hj : j < Tryz.prog.cellsOf e := by rw [← hlen]; exact (List.getElem?_eq_some_iff.1 hu).1
    rw [← Go.Deep.add_add, hat j hj, hu]
theorem row_w {fuel : Nat} {v : Value} {y : DataW H × List MemPlace} (h : Tr enc w fuel 22 [v] y) (hl : LimW H 22 y.1) :
    ∃ l : List VV, HoldsV w v l ∧ l.length * 32 ≤ 140737488355328 ∧ ∀ x ∈ l, x.inI ∧ x.s.size ≤ 140737488355328 := by
  rcases els_w (enc := enc) Tryz.underlying22 h hl with rfl | ⟨a, n, c, rfl, hc, hM, hi⟩
  · exact ⟨[], holdsV_nil w, by simp, fun c hc => by cases hc⟩
  obtain ⟨l, hll, hp⟩ := list_of (P := fun i (x : VV) => (w.cell? (a.add (i * 3)) = some (.int .i64 x.k) ∧ w.cell? ⟨(a.add (i * 3)).block, (a.add (i * 3)).off + 1, none⟩ = some (.int .i64 x.n) ∧ w.cell? ⟨(a.add (i * 3)).block, (a.add (i * 3)).off + 2, none⟩ = some (.string x.s)) ∧ x.inI ∧ x.s.size ≤ 140737488355328) (fun i hil => by
    obtain ⟨m, cs, z, ht, hlz, hcell⟩ := hi i hil
    obtain ⟨c, rfl, h1⟩ := val_of (enc := enc) (w := w) (limW H) ht hlz
    rw [cells_val] at hcell
    exact ⟨c, ⟨by simpa using hcell 0 _ rfl, cell_off (by omega) (hcell 1 _ rfl), cell_off (by omega) (hcell 2 _ rfl)⟩, h1⟩)
  rw [bytes_val] at hM
  refine ⟨l, ⟨some a, c, by rw [hll], by rw [hll]; exact hc, .inr ⟨a, rfl, fun i x hx => (hp i x hx).1⟩⟩, by omega, fun c hc => ?_⟩
  obtain ⟨i, hic⟩ := List.mem_iff_getElem?.1 hc
  exact (hp i c hic).2
theorem rows_w {fuel : Nat} {v : Value} {y : DataW H × List MemPlace} (h : Tr enc w fuel 53 [v] y) (hl : LimW H 53 y.1) :
    ∃ ws : List (List VV), RowsH w v ws ∧ ∀ r ∈ ws, r.length * 32 ≤ 140737488355328 ∧ ∀ x ∈ r, x.inI ∧ x.s.size ≤ 140737488355328 := by
  rcases els_w (enc := enc) Tryz.underlying53 h hl with rfl | ⟨a, n, c, rfl, hc, hM, hi⟩
  · exact ⟨[], ⟨[], Holds.nil w, rfl, fun i u r hu => by simp at hu⟩, fun c hc => by cases hc⟩
  obtain ⟨l, hll, hp⟩ := list_of (P := fun i (q : Value × List VV) => w.cell? (a.add i) = some q.1 ∧ HoldsV w q.1 q.2 ∧ q.2.length * 32 ≤ 140737488355328 ∧ ∀ x ∈ q.2, x.inI ∧ x.s.size ≤ 140737488355328) (fun i hil => by
    obtain ⟨m, cs, z, ht, hlz, hcell⟩ := hi i hil
    have hcl : ∃ u, cs = [u] := by
      rcases open_slice Tryz.underlying22 ht with ⟨h0, _⟩ | ⟨_, _, _, _, _, _, _, h0, _⟩
      · exact ⟨_, h0⟩
      · exact ⟨_, h0⟩
    obtain ⟨u, rfl⟩ := hcl
    obtain ⟨r, h1, h2, h3⟩ := row_w (enc := enc) (w := w) ht hlz
    rw [cells_row] at hcell
    exact ⟨(u, r), by simpa using hcell 0 _ rfl, h1, h2, h3⟩)
  refine ⟨l.map (·.2), ⟨l.map (·.1), ⟨some a, c, by rw [List.length_map, hll], by rw [List.length_map, hll]; exact hc, .inr ⟨a, rfl, fun i u hu => ?_⟩⟩, by simp, fun i u r hu hr => ?_⟩, fun r hr => ?_⟩
  · rw [List.getElem?_map] at hu
    obtain ⟨q, hq, rfl⟩ := Option.map_eq_some_iff.1 hu
    exact (hp i q hq).1
  · rw [List.getElem?_map] at hu hr
    obtain ⟨q, hq, rfl⟩ := Option.map_eq_some_iff.1 hu
    rw [hq] at hr
    simp at hr
    subst hr
    exact (hp i q hq).2.1
  · obtain ⟨q, hq, rfl⟩ := List.mem_map.1 hr
    obtain ⟨i, hic⟩ := List.mem_iff_getElem?.1 hq
    exact (hp i q hic).2.2
theorem ints_w {fuel : Nat} {v : Value} {y : DataW H × List MemPlace} (h : Tr enc w fuel 27 [v] y) : ∃ (a : Option Addr) (c : Nat) (l : List Int), v = .slice a l.length c ∧ Holds w v (i64s l) := by
  rcases open_ints Tryz.underlying27 Tryz.underlying3 (by kernel_rfl) h with ⟨hcs, _⟩ | ⟨x, l, c, zs, hcs, _, hl, hm, hz, _, hcell, hwz⟩
  · simp at hcs
    subst hcs
    exact ⟨none, 0, [], rfl, Holds.nil w⟩
  · simp at hcs
    subst hcs
    obtain ⟨m, h1, h2, _⟩ := isRow_i64 (zs := zs) (.inr ⟨x, rfl, hl, hm, by simpa using hz, hcell, hwz⟩ : IsRow .i64 w (some x) l c zs)
    exact ⟨some x, c, m, by rw [h1], h2⟩
theorem cells_ints : Tryz.prog.cellsOf 27 = 1 := by kernel_rfl
theorem cells_set : Tryz.prog.cellsOf 32 = 4 := by kernel_rfl
theorem cells_seeds : Tryz.prog.cellsOf 30 = 1 := by kernel_rfl
theorem cells_shape : Tryz.prog.cellsOf 52 = 6 := by kernel_rfl
theorem six_list {cs : List Value} (h : cs.length = 6) : ∃ a b c d e f, cs = [a, b, c, d, e, f] := by
  match cs, h with
  | [a, b, c, d, e, f], _ => exact ⟨a, b, c, d, e, f, rfl⟩
theorem set_w {fuel : Nat} {cs : List Value} {y : DataW H × List MemPlace} (h : Tr enc w fuel 32 cs y) : ∃ (t : Int) (sa : Option Addr) (n sc : Nat) (K M : Int) (S : List (Nat × Nat)), cs = [.int .i64 t, .slice sa n sc, .int .i64 K, .int .i64 M] ∧ SetAt w sa n sc S := by
  obtain ⟨xs, n, _, ex, hlen, hxl, hf⟩ := DataW.trod_struct Tryz.underlying32 h
  rw [cells_set] at hlen
  obtain ⟨u0, u1, u2, u3, rfl⟩ := four_list hlen
  have f0 : DataW.trod enc Tryz.prog w 0 (fun _ => true) true n 3 (([u0, u1, u2, u3].drop 0).take (Tryz.prog.cellsOf 3)) = xs[0]? := hf 0 _ rfl
  have f1 : DataW.trod enc Tryz.prog w 0 (fun _ => true) true n 30 (([u0, u1, u2, u3].drop 1).take (Tryz.prog.cellsOf 30)) = xs[1]? := hf 1 _ rfl
  have f2 : DataW.trod enc Tryz.prog w 0 (fun _ => true) true n 3 (([u0, u1, u2, u3].drop 2).take (Tryz.prog.cellsOf 3)) = xs[2]? := hf 2 _ rfl
  have f3 : DataW.trod enc Tryz.prog w 0 (fun _ => true) true n 3 (([u0, u1, u2, u3].drop 3).take (Tryz.prog.cellsOf 3)) = xs[3]? := hf 3 _ rfl
  rw [cells_int] at f0 f2 f3
  rw [cells_seeds] at f1
  obtain ⟨z0, x0⟩ : ∃ z, xs[0]? = some z := ⟨_, List.getElem?_eq_getElem (l := xs) (i := 0) (by rw [hxl]; decide)⟩
  obtain ⟨z1, x1⟩ : ∃ z, xs[1]? = some z := ⟨_, List.getElem?_eq_getElem (l := xs) (i := 1) (by rw [hxl]; decide)⟩
  obtain ⟨z2, x2⟩ : ∃ z, xs[2]? = some z := ⟨_, List.getElem?_eq_getElem (l := xs) (i := 2) (by rw [hxl]; decide)⟩
  obtain ⟨z3, x3⟩ : ∃ z, xs[3]? = some z := ⟨_, List.getElem?_eq_getElem (l := xs) (i := 3) (by rw [hxl]; decide)⟩
  rw [x0] at f0
  rw [x1] at f1
  rw [x2] at f2
  rw [x3] at f3
  obtain ⟨t, rfl, _⟩ := int_of (enc := enc) (w := w) f0
  obtain ⟨sa, len, sc, S, rfl, hS⟩ := seeds_of (enc := enc) f1
  obtain ⟨K, rfl, _⟩ := int_of (enc := enc) (w := w) f2
  obtain ⟨M, rfl, _⟩ := int_of (enc := enc) (w := w) f3
  exact ⟨t, sa, len, sc, K, M, S, rfl, hS⟩
theorem shape_w {fuel : Nat} {cs : List Value} {y : DataW H × List MemPlace} (h : Tr enc w fuel 52 cs y) (hl : LimW H 52 y.1) :
    ∃ (ms : List (Int × ByteArray)) (ks : List Int) (a1 : Option Addr) (c1 : Nat) (a2 : Option Addr) (c2 : Nat) (t : Int) (sa : Option Addr) (n sc : Nat) (K M : Int) (S : List (Nat × Nat)), cs = [.slice a1 ms.length c1, .slice a2 ks.length c2, .int .i64 t, .slice sa n sc, .int .i64 K, .int .i64 M] ∧
      Holds2 w (.slice a1 ms.length c1) (ms.map meaC) ∧ Holds w (.slice a2 ks.length c2) (i64s ks) ∧ SetAt w sa n sc S ∧ ∀ m ∈ ms, m.2.size ≤ 140737488355328 := by
  obtain ⟨xs, n, _, ex, hlen, hxl, hf⟩ := DataW.trod_struct Tryz.underlying52 h
  rw [cells_shape] at hlen
  obtain ⟨u0, u1, u2, u3, u4, u5, rfl⟩ := six_list hlen
  have f0 : DataW.trod enc Tryz.prog w 0 (fun _ => true) true n 26 (([u0, u1, u2, u3, u4, u5].drop 0).take (Tryz.prog.cellsOf 26)) = xs[0]? := hf 0 _ rfl
  have f1 : DataW.trod enc Tryz.prog w 0 (fun _ => true) true n 27 (([u0, u1, u2, u3, u4, u5].drop 1).take (Tryz.prog.cellsOf 27)) = xs[1]? := hf 1 _ rfl
  have f2 : DataW.trod enc Tryz.prog w 0 (fun _ => true) true n 32 (([u0, u1, u2, u3, u4, u5].drop 2).take (Tryz.prog.cellsOf 32)) = xs[2]? := hf 2 _ rfl
  rw [cells_meas] at f0
  rw [cells_ints] at f1
  rw [cells_set] at f2
  obtain ⟨z0, x0⟩ : ∃ z, xs[0]? = some z := ⟨_, List.getElem?_eq_getElem (l := xs) (i := 0) (by rw [hxl]; decide)⟩
  obtain ⟨z1, x1⟩ : ∃ z, xs[1]? = some z := ⟨_, List.getElem?_eq_getElem (l := xs) (i := 1) (by rw [hxl]; decide)⟩
  obtain ⟨z2, x2⟩ : ∃ z, xs[2]? = some z := ⟨_, List.getElem?_eq_getElem (l := xs) (i := 2) (by rw [hxl]; decide)⟩
  rw [x0] at f0
  rw [x1] at f1
  rw [x2] at f2
  rw [ex] at hl
  have l0 := (limW H).agg _ _ _ 0 _ z0.1 Tryz.underlying52 hl rfl (by rw [List.getElem?_map, x0]; rfl)
  obtain ⟨ms, g1, _, g2⟩ := meas_of (enc := enc) (w := w) (limW H) f0 l0
  obtain ⟨a2, c2, ks, rfl, g3⟩ := ints_w (enc := enc) (w := w) f1
  obtain ⟨t, sa, m, sc, K, M, S, e, hS⟩ := set_w (enc := enc) (w := w) f2
  simp only [List.drop_succ_cons, List.drop_zero, List.take_succ_cons, List.take_zero, List.cons.injEq, and_true] at e
  obtain ⟨rfl, rfl, rfl, rfl⟩ := e
  obtain ⟨a1, c1, rfl, _⟩ := g1.form
  rw [List.length_map] at g1
  refine ⟨ms, ks, a1, c1, a2, c2, t, sa, m, sc, K, M, S, by rw [List.length_map], g1, g3, hS, fun x hx => (g2 x hx).1⟩
end
section
variable {H : Type} {enc : TypeId × Value → H} {w : World} {r : Reach} {b0 : Nat} {v : Value} {d : DataW H} {q : List MemPlace}
theorem shape_arg (_ : LimOk (LimW H) 140737488355328) (hv : Value.okWide Tryz.prog w r b0 52 v) (h : DataW.Trod enc Tryz.prog w 0 (fun _ => true) true 52 v d q) (hl : LimW H 52 d) :
    ∃ (ms : List (Int × ByteArray)) (ks : List Int) (a1 : Option Addr) (c1 : Nat) (a2 : Option Addr) (c2 : Nat) (t : Int) (sa : Option Addr) (n sc : Nat) (K M : Int) (S : List (Nat × Nat)), v = .agg #[.slice a1 ms.length c1, .slice a2 ks.length c2, .int .i64 t, .slice sa n sc, .int .i64 K, .int .i64 M] ∧
      Holds2 w (.slice a1 ms.length c1) (ms.map meaC) ∧ Holds w (.slice a2 ks.length c2) (i64s ks) ∧ SetAt w sa n sc S ∧ ∀ m ∈ ms, m.2.size ≤ 140737488355328 := by
  obtain ⟨cs, rfl, hsz⟩ := okWide_struct Tryz.underlying52 hv
  obtain ⟨fuel, hf⟩ := h
  obtain ⟨ms, ks, a1, c1, a2, c2, t, sa, n, sc, K, M, S, hc, h1⟩ := shape_w (enc := enc) (w := w) (fuel := fuel) (cs := cs.toList) (y := (d, q)) (by simpa [Tr, Value.cells] using hf) hl
  refine ⟨ms, ks, a1, c1, a2, c2, t, sa, n, sc, K, M, S, ?_, h1⟩
  have : cs = ([.slice a1 ms.length c1, .slice a2 ks.length c2, .int .i64 t, .slice sa n sc, .int .i64 K, .int .i64 M] : List Value).toArray := by rw [← hc]
  rw [this]
theorem vrows_arg (_ : LimOk (LimW H) 140737488355328) (hv : Value.okWide Tryz.prog w r b0 53 v) (h : DataW.Trod enc Tryz.prog w 0 (fun _ => true) true 53 v d q) (hl : LimW H 53 d) :
    ∃ (a : Option Addr) (c : Nat) (ws : List (List VV)), v = .slice a ws.length c ∧ RowsH w v ws ∧ ∀ r ∈ ws, r.length * 32 ≤ 140737488355328 ∧ ∀ x ∈ r, x.inI := by
  obtain ⟨a, n, c, rfl⟩ := okWide_slice Tryz.underlying53 hv
  obtain ⟨fuel, hf⟩ := h
  obtain ⟨ws, h1, h2⟩ := rows_w (enc := enc) (fuel := fuel) (y := (d, q)) (by simpa [Tr, Value.cells] using hf) hl
  obtain ⟨a', c', e, _⟩ := h1.form
  exact ⟨a', c', ws, e, h1, fun r hr => ⟨(h2 r hr).1, fun x hx => ((h2 r hr).2 x hx).1⟩⟩
end
end Go.Proofs.YtlhpbfjelgmkeaaGreat
/- New of any measures: a cell, or none; a row more, whether it may be or not; a merge. Conditions: as stated. -/
set_option maxRecDepth 100000
namespace Go.Proofs.YtlhpbfjelgmkeaaGreat
open Go.RowKit Go.Maps Go.Sort Go.Lib

/-- may a cell be of these? -/
def newOk (ms : List (Int × ByteArray)) (ks : List Int) (t : Int) (S : List (Nat × Nat)) (K M : Int) : Prop := ks.length = ms.length ∧ ms.length ≤ 16 ∧ goodB t S K M = true ∧ allOk ms ks
section
variable {w0 w : World} {E : List (Nat × Thing)} {ms : List (Int × ByteArray)} {ks : List Int} {a1 a2 sa : Option Addr} {c1 c2 ns sc : Nat} {t K M : Int} {S : List (Nat × Nat)}
theorem newOk.mk_ (h : newOk ms ks t S K M) (hsz : ∀ m ∈ ms, m.2.size ≤ 140737488355328) : ∃ A : Mk, A.Ok ∧ A.ms = ms ∧ A.ks = ks ∧ (A.t : Int) = t ∧ A.S = S ∧ A.K = K ∧ A.M = M := by
  obtain ⟨h1, h2, h3, h4⟩ := h
  obtain ⟨tn, rfl, _⟩ := goodB_set h3
  exact ⟨⟨ms, ks, tn, S, K, M⟩, ⟨h1, h2, h3, h4, fun j m hm => hsz m (List.mem_of_getElem? hm)⟩, rfl, rfl, rfl, rfl, rfl, rfl⟩
theorem cnew_none (h : Side w0 E w) (HL : ∀ W, Side w0 E W → Holds2 W (.slice a1 ms.length c1) (ms.map meaC)) (HK : ∀ W, Side w0 E W → Holds W (.slice a2 ks.length c2) (i64s ks)) (HSet : ∀ W, Side w0 E W → SetAt W sa ns sc S)
    (hsz : ∀ m ∈ ms, m.2.size ≤ 140737488355328) (hE : tagsOff 0 E) (hno : ¬ newOk ms ks t S K M) :
    Calls Tryz.prog 9 #[.slice a1 ms.length c1, .slice a2 ks.length c2, setV t sa ns sc K M] w fun e w' => e = .returned (.pointer none) ∧ Hid (Side w0 E w') := by
  by_cases hb : ks.length ≠ ms.length ∨ 16 < ms.length ∨ goodB t S K M = false
  · refine (cnew_bad (HSet w h) t K M hb).mono ?_
    rintro e w' ⟨rfl, hw⟩
    exact ⟨rfl, Lib.hid (h.below hw)⟩
  · have h1 : ks.length = ms.length := by omega
    have h2 : ms.length ≤ 16 := by omega
    have h3 : goodB t S K M = true := by
      cases e : goodB t S K M with
      | true => rfl
      | false => exact absurd (.inr (.inr e)) hb
    obtain ⟨tn, rfl, _⟩ := goodB_set h3
    refine (cnew_gen h 0 hE HL HK HSet tn K M h3 h1 h2 (fun j m hm => hsz m (List.mem_of_getElem? hm))).mono ?_
    rintro e w' (⟨ha, _⟩ | ⟨_, rfl, hS⟩)
    · exact absurd ⟨h1, h2, h3, ha⟩ hno
    · exact ⟨rfl, hS⟩
theorem cnew_some {A : Mk} (hA : A.Ok) (h : Side w0 E w) (i : Nat) (hE : tagsOff i E) (HL : ∀ W, Side w0 E W → Holds2 W (.slice a1 A.ms.length c1) (A.ms.map meaC)) (HK : ∀ W, Side w0 E W → Holds W (.slice a2 A.ks.length c2) (i64s A.ks)) (HSet : ∀ W, Side w0 E W → SetAt W sa ns sc A.S) :
    Calls Tryz.prog 9 #[.slice a1 A.ms.length c1, .slice a2 A.ks.length c2, setV A.t sa ns sc A.K A.M] w fun e w' => ∃ q L C, e = .returned (.pointer (some ⟨q, 0, none⟩)) ∧ CI A 0 C ∧ (A.S.length ≤ L.c ∧ L.c ≤ maxLen) ∧ Hid (Side w0 (cellE i q L C ++ E) w') := by
  refine (cnew_gen h i hE HL HK HSet A.t A.K A.M hA.good hA.len hA.l16 hA.sz).mono ?_
  rintro e w' (⟨_, q, L, C, rfl, hN, hc, hS⟩ | ⟨hn, _⟩)
  · exact ⟨q, L, C, rfl, ci_new hA hN, hc, hS⟩
  · exact absurd hA.all hn
end
/-- does a row fit? -/
def okRow (A : Mk) (r : List VV) : Bool := decide (r.length = A.ms.length) && fitsL r A.ks
def cntR (A : Mk) (ws : List (List VV)) : Nat := (ws.filter (okRow A)).length
theorem cntR_snoc (A : Mk) (ws : List (List VV)) (r : List VV) : cntR A (ws ++ [r]) = if okRow A r = true then cntR A ws + 1 else cntR A ws := by
  unfold cntR
  rw [List.filter_append, List.length_append]
  by_cases h : okRow A r = true
  · rw [if_pos h, List.filter_cons_of_pos h]; rfl
  · rw [if_neg h, List.filter_cons_of_neg h]; simp
theorem cntR_le (A : Mk) (ws : List (List VV)) : cntR A ws ≤ ws.length := List.length_filter_le _ _
section
variable {w0 w : World} {E : List (Nat × Thing)} {A : Mk} {i q n : Nat} {L : Lay} {C : Cv}
/-- a row more, with ids that are 0 -/
theorem ci_add (hA : A.Ok) (h : Side w0 (cellE i q L C ++ E) w) (hE : tagsOff i E) (hi : i ≤ 800) (hC : CI A n C) (hn : n ≤ 1000) {r : List VV} (hr : ∀ x ∈ r, x.inI) {ra : Option Addr} {rn rc : Nat} (hrn : r.length = rn) (HV : ∀ W, Below w0.heap.size w0 W → HoldsV W (.slice ra rn rc) r) :
    Calls Tryz.prog 12 #[.pointer (some ⟨q, 0, none⟩), .slice ra rn rc, .slice (some ⟨w.heap.size, 0, none⟩) rn rn] (w.alloc (.cells (List.replicate rn (.int .i64 0)).toArray 3)) fun e w' =>
      ∃ c : Int, e = .returned (.int .i64 c) ∧ (c == 0) = okRow A r ∧ Hid (∃ C', CI A (if okRow A r = true then n + 1 else n) C' ∧ Side w0 (cellE i q L C' ++ E) w') := by
  have S1 := (h.alloc 901 (.cells (List.replicate rn (.int .i64 0)).toArray 3))
  have S2 := S1.sub (E' := cellE i q L C ++ ((901, Box w.heap.size (.cells (List.replicate rn (.int .i64 0)).toArray 3 (0, 0))) :: E)) (fun x hx => by
    simp only [List.mem_append, List.mem_cons] at hx ⊢
    rcases hx with hx | hx | hx <;> simp [hx])
  have g0 : (i, OBox q (celO L C)) ∈ cellE i q L C ++ ((901, Box w.heap.size (.cells (List.replicate rn (.int .i64 0)).toArray 3 (0, 0))) :: E) := by unfold cellE; simp
  have g2 : (i + 2, RowT 97 1 L.sv C.st.length (vals C.st)) ∈ cellE i q L C ++ ((901, Box w.heap.size (.cells (List.replicate rn (.int .i64 0)).toArray 3 (0, 0))) :: E) := by unfold cellE; simp
  have back : ∀ {C' : Cv} {W : World}, Side w0 (cellE i q L C' ++ ((901, Box w.heap.size (.cells (List.replicate rn (.int .i64 0)).toArray 3 (0, 0))) :: E)) W → Side w0 (cellE i q L C' ++ E) W := fun hS => hS.sub (fun x hx => by
    simp only [List.mem_append, List.mem_cons] at hx ⊢
    rcases hx with hx | hx <;> simp [hx])
  have ht : 1 ≤ C.t := by rw [hC.t]; exact hA.t1
  by_cases hl : rn = A.ms.length
  · have hks : C.ks.length = rn := by rw [hC.ks, hA.len, hl]
    have hl2 : r.length ≤ A.ks.length := by rw [hA.len]; omega
    refine (cadd_any (m := n) (xs := r) (ids := List.replicate rn 0) S2 (off_cons (by omega) hE) (fun W hW => HV W hW.base) (fun W hW => Holds.of_heap (hW.heap (i := 901) (List.mem_cons_self ..)) (by simp [i64s]) rn rn (by simp [i64s]) (Nat.le_refl _)) (by rw [hl]; exact hA.l16) hrn (by simp) hks (by rw [hC.len, hl]) ht (by rw [hC.rows]; omega) (by omega) hC.sm hr (fun d hd => by
      rw [List.eq_of_mem_replicate hd]; exact ⟨by decide, by decide⟩) (fun hf => by rw [hC.ks] at hf; exact fitsL_all hf hl2 hr) (by rw [hC.ks]; exact hA.kinds)).mono ?_
    rintro e w' (⟨hf, rfl, st', ha, _, S3⟩ | ⟨hf, rfl, S3⟩)
    · rw [hC.ks] at hf
      have ho : okRow A r = true := by unfold okRow; rw [hf, hrn, hl]; simp
      rw [ho]
      exact ⟨0, rfl, rfl, Lib.hid ⟨_, by rw [if_pos rfl]; exact hC.add (by omega) (by rw [List.length_replicate]; exact hl) (fitsL_all hf hl2 hr) ha, back S3.out⟩⟩
    · rw [hC.ks] at hf
      have ho : okRow A r = false := by unfold okRow; rw [hf]; simp
      rw [ho]
      exact ⟨12, rfl, rfl, Lib.hid ⟨_, by rw [if_neg (by simp)]; exact hC, back S3.out⟩⟩
  · obtain ⟨T, hT⟩ := side_thing S2 g2
    obtain ⟨sa, sc, hsv, _⟩ := ownsRow_form hT.1
    refine (cadd_len (S2.heapO g0) ht hsv (by rw [hC.len]; exact hl)).mono ?_
    rintro e w' ⟨rfl, rfl⟩
    have ho : okRow A r = false := by unfold okRow; rw [hrn, decide_eq_false hl]; rfl
    rw [ho]
    exact ⟨2, rfl, rfl, Lib.hid ⟨_, by rw [if_neg (by simp)]; exact hC, back S2⟩⟩
/-- the merge with a cell that got no rows -/
theorem ci_merge (hA : A.Ok) {i2 q2 n2 : Nat} {L2 : Lay} {C2 : Cv} (h : Side w0 (cellE i q L C ++ (cellE i2 q2 L2 C2 ++ E)) w) (hE : tagsOff i E) (hii : i + 100 ≤ i2 ∨ i2 + 100 ≤ i) (hC : CI A n C) (hC2 : CI A n2 C2) (hn : n ≤ 1000) (hn2 : n2 ≤ 1000) :
    Calls Tryz.prog 13 #[.pointer (some ⟨q, 0, none⟩), .pointer (some ⟨q2, 0, none⟩)] w fun e w' => e = .returned (.int .i64 0) ∧ Hid (∃ C', CI A (n + n2) C' ∧ Side w0 (cellE i q L C' ++ (cellE i2 q2 L2 C2 ++ E)) w') := by
  have h16 := hA.l16
  refine (cmerge_two (n := A.ms.length) (m1 := n) (m2 := n2) h hE hii (by rw [hC.ms, hC2.ms]) (by rw [hC.ks, hC2.ks]) (by rw [hC.t, hC2.t]) (by rw [hC.S, hC2.S]) (by rw [hC.K, hC2.K]) (by rw [hC.M, hC2.M]) (by rw [hC.ms]; exact h16) (by rw [hC.ks, hA.len]; exact h16) (by rw [hC.S]; exact hA.s16) h16 hC.len hC2.len (by rw [hC.t]; exact hA.t1) (by rw [hC.rows]; omega) (by rw [hC2.rows]; omega) (by omega) (hC.alike hA hC2) hC.sm hC2.sm).mono ?_
  rintro e w' ⟨rfl, st', hm, _, hS'⟩
  exact ⟨rfl, Lib.hid ⟨_, hC.merge hA hC2 hm, hS'.out⟩⟩
theorem ci_rows (hA : A.Ok) (h : Side w0 (cellE i q L C ++ E) w) (hC : CI A n C) : Calls Tryz.prog 14 #[.pointer (some ⟨q, 0, none⟩)] w fun e w' => e = .returned (.int .i64 (n : Int)) ∧ w = w' := by
  have := crows_at (h.heapO (i := i) (b := q) (ob := celO L C) (by unfold cellE; simp)) (by rw [hC.t]; exact hA.t1)
  rw [hC.rows] at this
  exact this
end
theorem mk_zeros (w : World) (k : Nat) (hk : k * 32 ≤ 140737488355328) :
    (Instr.makeSlice 27 (.int .i64 (k : Int)) (.int .i64 (k : Int))).run Tryz.prog w = .ok (.slice (some ⟨w.heap.size, 0, none⟩) k k) (w.alloc (.cells (List.replicate k (.int .i64 0)).toArray 3)) := by
  obtain ⟨i, hi, hz0, hz1, hz2⟩ := info_parts info64
  have := run_make (P := Tryz.prog) w 27 3 i (.int .i64 0) Tryz.underlying27 hi hz0 .i64 .i64 (k : Int) k (by omega) (by omega) (by rw [hz2]; omega) (by omega)
  rw [this, hz1]
  simp only [Int.toNat_natCast, Nat.mul_one, Value.cells]
  have e : madeCells #[Value.int .i64 0] k = (List.replicate k (Value.int .i64 0)).toArray := by
    apply Array.toList_inj.1
    rw [toList_madeCells_one]
  rw [e]
end Go.Proofs.YtlhpbfjelgmkeaaGreat
/- What a cell tells: a sum, a least, and that a sum is no count. Conditions: a cell that was made. -/
set_option maxRecDepth 100000
namespace Go.Proofs.YtlhpbfjelgmkeaaGreat
open Go.RowKit Go.Maps Go.Sort Go.Lib
open Wide

section
variable {w0 w : World} {E : List (Nat × Thing)} {i q : Nat} {L : Lay} {C : Cv}
theorem csum_at (h : Side w0 E w) (h1 : (i, OBox q (celO L C)) ∈ E) (h2 : (i + 2, RowT 97 1 L.sv C.st.length (vals C.st)) ∈ E) (ht : 1 ≤ C.t) {m b n j : Nat} {N : Int} (hm : C.st[m]? = some (b, .sum N n)) (h3 : (j, OBox b (sumO N n)) ∈ E) :
    Calls Tryz.prog 16 #[.pointer (some ⟨q, 0, none⟩), .int .i64 (m : Int)] w fun e w' => e = .returned (.tuple #[wv N, .int .i64 (n : Int), .bool true]) ∧ Below w.heap.size w w' := by
  have hb := below_c w (.cells #[.int .i64 0, .int .u64 0] 45)
  have S1 := h.below hb
  have KS := cstate_at S1 h1 h2 ht hm
  have hx := heap_alloc_new w (.cells #[.int .i64 0, .int .u64 0] 45)
  have hs := S1.heapO h3
  obtain ⟨W, hW⟩ : ∃ W, w.alloc (.cells #[.int .i64 0, .int .u64 0] 45) = W := ⟨_, rfl⟩
  rw [hW] at KS hx hs hb
  obtain ⟨x, y, ex, ey⟩ : ∃ x y, hiW N = x ∧ loW N = y := ⟨_, _, rfl, rfl⟩
  unfold wv
  unfold sumO at hs
  rw [ex, ey] at hs ⊢
  have e0 : W.cell? ⟨b, 0, none⟩ = some (.int .i64 x) := by rw [cell_of_row _ _ _ _ _ _ hs]; rfl
  have e1 : W.cell? ⟨b, 1, none⟩ = some (.int .u64 y) := by rw [cell_of_row _ _ _ _ _ _ hs]; rfl
  have e2 : W.cell? ⟨b, 2, none⟩ = some (.int .i64 (n : Int)) := by rw [cell_of_row _ _ _ _ _ _ hs]; rfl
  have d0 : W.cell? ⟨w.heap.size, 0, none⟩ = some (.int .i64 0) := by rw [cell_of_row _ _ _ _ _ _ hx]; rfl
  have d1 : W.cell? ⟨w.heap.size, 1, none⟩ = some (.int .u64 0) := by rw [cell_of_row _ _ _ _ _ _ hx]; rfl
  have f0 : W.frozen? ⟨w.heap.size, 0, none⟩ = false := free_of_row hx 0
  have f1 : W.frozen? ⟨w.heap.size, 1, none⟩ = false := free_of_row hx 1
  have hx2 := heap_set (j := 1) (heap_set (j := 0) hx (.int .i64 x)) (.int .u64 y)
  have r0 : ((W.setCell ⟨w.heap.size, 0, none⟩ (.int .i64 x)).setCell ⟨w.heap.size, 1, none⟩ (.int .u64 y)).cell? ⟨w.heap.size, 0, none⟩ = some (.int .i64 x) := by rw [cell_of_row _ _ _ _ _ _ hx2]; rfl
  have r1 : ((W.setCell ⟨w.heap.size, 0, none⟩ (.int .i64 x)).setCell ⟨w.heap.size, 1, none⟩ (.int .u64 y)).cell? ⟨w.heap.size, 1, none⟩ = some (.int .u64 y) := by rw [cell_of_row _ _ _ _ _ _ hx2]; rfl
  have FIN := Lib.hid (show Below w.heap.size w ((W.setCell ⟨w.heap.size, 0, none⟩ (.int .i64 x)).setCell ⟨w.heap.size, 1, none⟩ (.int .u64 y)) from (hb.setCell (p := ⟨w.heap.size, 0, none⟩) (Nat.le_refl _) _).setCell (p := ⟨w.heap.size, 1, none⟩) (Nat.le_refl _) _)
  have KA := as_sum_sum
  unfold Sv.val at KS
  simp only at KS
  clear h h1 h2 h3 hm ht S1 hs hx hx2 hb ex ey
  go_enter Tryz.func16, Tryz.ntmps16
  go_wp2_with fail
  refine KS.mono ?_
  rintro e w' ⟨rfl, rfl⟩
  clear KS hW
  go_upto_region 3 with (fail)
  go_region
  go_wp2_with fail
  refine bodyPost_ret (v := .tuple #[.agg #[.int .i64 x, .int .u64 y], .int .i64 (n : Int), .bool true]) ?_ rfl ⟨rfl, ⟨FIN.out.os, FIN.out.tape, FIN.out.output, FIN.out.size, FIN.out.block⟩⟩
  simp [results, Tryz.results16, go_sem, r0, r1]
theorem ccount_sum (h : Side w0 E w) (h1 : (i, OBox q (celO L C)) ∈ E) (h2 : (i + 2, RowT 97 1 L.sv C.st.length (vals C.st)) ∈ E) (ht : 1 ≤ C.t) {m b n : Nat} {N : Int} (hm : C.st[m]? = some (b, .sum N n)) :
    Calls Tryz.prog 15 #[.pointer (some ⟨q, 0, none⟩), .int .i64 (m : Int)] w fun e w' => e = .returned (.tuple #[.int .i64 0, .bool false]) ∧ w = w' := by
  have KS := cstate_at h h1 h2 ht hm
  unfold Sv.val at KS
  simp only at KS
  have KA := as_sum_count
  clear h h1 h2 hm ht
  go_enter Tryz.func15, Tryz.ntmps15
  go_wp2_with fail
  refine KS.mono ?_
  rintro e w' ⟨rfl, rfl⟩
  clear KS
  go_wp2_with fail
  go_ret2
  exact ⟨rfl, rfl⟩
theorem cleast_at (h : Side w0 E w) (h1 : (i, OBox q (celO L C)) ∈ E) (h2 : (i + 2, RowT 97 1 L.sv C.st.length (vals C.st)) ∈ E) (ht : 1 ≤ C.t) {m b j : Nat} {v : VV} (hm : C.st[m]? = some (b, .low v)) (h3 : (j, OBox b (lowO v)) ∈ E) (hv : v.fine) :
    Calls Tryz.prog 17 #[.pointer (some ⟨q, 0, none⟩), .int .i64 (m : Int)] w fun e w' => e = .returned (.tuple #[v.val, .bool true]) ∧ Below w.heap.size w w' := by
  have hb := below_c w (.cells #[.int .i64 0, .int .i64 0, .string ⟨#[]⟩] 36)
  have S1 := h.below hb
  have KS := cstate_at S1 h1 h2 ht hm
  have hx := heap_alloc_new w (.cells #[.int .i64 0, .int .i64 0, .string ⟨#[]⟩] 36)
  have hs := S1.heapO h3
  obtain ⟨W, hW⟩ : ∃ W, w.alloc (.cells #[.int .i64 0, .int .i64 0, .string ⟨#[]⟩] 36) = W := ⟨_, rfl⟩
  rw [hW] at KS hx hs hb
  have KC := ccopied_any v hv.1 W
  obtain ⟨vk, vn, vs⟩ := v
  rw [one_val] at KC ⊢
  unfold lowO at hs
  simp only at KC hs ⊢
  obtain ⟨c0, c1, c2⟩ : W.cell? ⟨b, 0, none⟩ = some (.int .i64 vk) ∧ W.cell? ⟨b, 1, none⟩ = some (.int .i64 vn) ∧ W.cell? ⟨b, 2, none⟩ = some (.string vs) := ⟨by rw [cell_of_row _ _ _ _ _ _ hs]; rfl, by rw [cell_of_row _ _ _ _ _ _ hs]; rfl, by rw [cell_of_row _ _ _ _ _ _ hs]; rfl⟩
  have HX := Lib.hid hx
  have HB := Lib.hid hb
  have KA := as_least_least
  unfold Sv.val at KS
  simp only at KS
  clear h h1 h2 h3 hm ht S1 hs hx hb hv
  go_enter Tryz.func17, Tryz.ntmps17
  go_wp2_with fail
  refine KS.mono ?_
  rintro e w' ⟨rfl, rfl⟩
  clear KS hW
  go_wp2_with fail
  refine KC.mono ?_
  rintro e w2 ⟨rfl, hb2⟩
  have hx := (hb2.block _ (lt_of_heap HX.out)).trans HX.out
  have y0 : w2.cell? ⟨w.heap.size, 0, none⟩ = some (.int .i64 0) := by rw [cell_of_row _ _ _ _ _ _ hx]; rfl
  have y1 : w2.cell? ⟨w.heap.size, 1, none⟩ = some (.int .i64 0) := by rw [cell_of_row _ _ _ _ _ _ hx]; rfl
  have y2 : w2.cell? ⟨w.heap.size, 2, none⟩ = some (.string ⟨#[]⟩) := by rw [cell_of_row _ _ _ _ _ _ hx]; rfl
  have f0 := free_of_row hx 0
  have f1 := free_of_row hx 1
  have f2 := free_of_row hx 2
  have hx2 := heap_set (j := 2) (heap_set (j := 1) (heap_set (j := 0) hx (.int .i64 vk)) (.int .i64 vn)) (.string vs)
  have r0 : (((w2.setCell ⟨w.heap.size, 0, none⟩ (.int .i64 vk)).setCell ⟨w.heap.size, 1, none⟩ (.int .i64 vn)).setCell ⟨w.heap.size, 2, none⟩ (.string vs)).cell? ⟨w.heap.size, 0, none⟩ = some (.int .i64 vk) := by rw [cell_of_row _ _ _ _ _ _ hx2]; rfl
  have r1 : (((w2.setCell ⟨w.heap.size, 0, none⟩ (.int .i64 vk)).setCell ⟨w.heap.size, 1, none⟩ (.int .i64 vn)).setCell ⟨w.heap.size, 2, none⟩ (.string vs)).cell? ⟨w.heap.size, 1, none⟩ = some (.int .i64 vn) := by rw [cell_of_row _ _ _ _ _ _ hx2]; rfl
  have r2 : (((w2.setCell ⟨w.heap.size, 0, none⟩ (.int .i64 vk)).setCell ⟨w.heap.size, 1, none⟩ (.int .i64 vn)).setCell ⟨w.heap.size, 2, none⟩ (.string vs)).cell? ⟨w.heap.size, 2, none⟩ = some (.string vs) := by rw [cell_of_row _ _ _ _ _ _ hx2]; rfl
  have hb3 := HB.out.trans (hb2.mono HB.out.size)
  have FIN := Lib.hid (((hb3.setCell (p := ⟨w.heap.size, 0, none⟩) (Nat.le_refl _) (.int .i64 vk)).setCell (p := ⟨w.heap.size, 1, none⟩) (Nat.le_refl _) (.int .i64 vn)).setCell (p := ⟨w.heap.size, 2, none⟩) (Nat.le_refl _) (.string vs))
  clear hb2 hb3 hx hx2 KC HX HB
  go_wp2_with fail
  refine bodyPost_ret (v := .tuple #[.agg #[.int .i64 vk, .int .i64 vn, .string vs], .bool true]) ?_ rfl ⟨rfl, FIN.out⟩
  simp [results, Tryz.results17, go_sem, r0, r1, r2]
end
end Go.Proofs.YtlhpbfjelgmkeaaGreat
/- The settings of the document's example. Conditions: none. -/
set_option maxRecDepth 100000
namespace Go.Proofs.YtlhpbfjelgmkeaaGreat
open Go.RowKit Go.Maps Go.Sort Go.Lib
open Wide

def seedO : Obj := .cells #[.int .u64 3, .int .u64 1] 95 (0, 0)
theorem set_box {w : World} {b : Nat} (h : w.heap[b]? = some seedO) : SetAt w (some ⟨b, 0, none⟩) 1 1 [(3, 1)] where
  len := rfl
  cap := ⟨Nat.le_refl _, by unfold maxLen; omega⟩
  lt := fun s hs => by simp at hs; subst hs; exact ⟨by decide, by decide⟩
  at_ := fun _ => ⟨_, rfl, fun j u hj => by
    rw [Addr.add_at, Nat.zero_add, cell_of_row _ _ _ _ _ _ h]
    simpa [flat] using hj⟩
theorem set_any {w0 w : World} {E : List (Nat × Thing)} (h : Side w0 E w) (j : Nat) : Calls Tryz.prog 10 #[] w fun e w' => ∃ b, e = .returned (setV 4 (some ⟨b, 0, none⟩) 1 1 4 2) ∧ Hid (Side w0 ((j, Box b seedO) :: E) w') := by
  have hb := below_c w (.cells #[.int .i64 4, .slice (some ⟨w.heap.size + 1, 0, none⟩) 1 1, .int .i64 4, .int .i64 2] 32)
  have hn := heap_alloc_new w (.cells #[.int .i64 4, .slice (some ⟨w.heap.size + 1, 0, none⟩) 1 1, .int .i64 4, .int .i64 2] 32)
  have hz : (w.alloc (.cells #[.int .i64 4, .slice (some ⟨w.heap.size + 1, 0, none⟩) 1 1, .int .i64 4, .int .i64 2] 32)).heap.size = w.heap.size + 1 := by simp
  have S := (h.below hb).alloc j seedO
  rw [hz] at S
  have hx := ((below_c (w.alloc (.cells #[.int .i64 4, .slice (some ⟨w.heap.size + 1, 0, none⟩) 1 1, .int .i64 4, .int .i64 2] 32)) seedO).block _ (by rw [hz]; omega)).trans hn
  have r0 : ((w.alloc (.cells #[.int .i64 4, .slice (some ⟨w.heap.size + 1, 0, none⟩) 1 1, .int .i64 4, .int .i64 2] 32)).alloc seedO).cell? ⟨w.heap.size, 0, none⟩ = some (.int .i64 4) := by rw [cell_of_row _ _ _ _ _ _ hx]; rfl
  have r1 : ((w.alloc (.cells #[.int .i64 4, .slice (some ⟨w.heap.size + 1, 0, none⟩) 1 1, .int .i64 4, .int .i64 2] 32)).alloc seedO).cell? ⟨w.heap.size, 1, none⟩ = some (.slice (some ⟨w.heap.size + 1, 0, none⟩) 1 1) := by rw [cell_of_row _ _ _ _ _ _ hx]; rfl
  have r2 : ((w.alloc (.cells #[.int .i64 4, .slice (some ⟨w.heap.size + 1, 0, none⟩) 1 1, .int .i64 4, .int .i64 2] 32)).alloc seedO).cell? ⟨w.heap.size, 2, none⟩ = some (.int .i64 4) := by rw [cell_of_row _ _ _ _ _ _ hx]; rfl
  have r3 : ((w.alloc (.cells #[.int .i64 4, .slice (some ⟨w.heap.size + 1, 0, none⟩) 1 1, .int .i64 4, .int .i64 2] 32)).alloc seedO).cell? ⟨w.heap.size, 3, none⟩ = some (.int .i64 2) := by rw [cell_of_row _ _ _ _ _ _ hx]; rfl
  have FIN := Lib.hid S
  unfold seedO at r0 r1 r2 r3
  clear hb hn hz S hx h
  go_enter Tryz.func10, Tryz.ntmps10
  go_wp2_with fail
  refine bodyPost_ret (v := setV 4 (some ⟨w.heap.size + 1, 0, none⟩) 1 1 4 2) ?_ rfl ⟨_, rfl, FIN⟩
  simp [results, Tryz.results10, go_sem, r0, r1, r2, r3, setV]
theorem holds2_heap {w : World} {b : Nat} {T : TypeId} {l : List (Value × Value)} {n : Nat} (hn : l.length = n) {cs : Array Value} (hb : w.heap[b]? = some (.cells cs T (0, 0))) (hc : cs.toList = fl2 l) : Holds2 w (.slice (some ⟨b, 0, none⟩) n n) l := by
  subst hn
  refine ⟨_, _, rfl, Nat.le_refl _, .inr ⟨_, rfl, fun i x hx => ?_⟩⟩
  obtain ⟨a0, a1⟩ := fl2_at l i x hx
  rw [Addr.add_at, Nat.zero_add, cell_of_row _ _ _ _ _ _ hb, cell_of_row _ _ _ _ _ _ hb, ← Array.getElem?_toList, ← Array.getElem?_toList, hc]
  exact ⟨a0, a1⟩
/-- two values alike in a block -/
def twoO (v : VV) : Obj := .cells #[.int .i64 v.k, .int .i64 v.n, .string v.s, .int .i64 v.k, .int .i64 v.n, .string v.s] 36 (0, 0)
theorem holds_two {w : World} {b : Nat} {v : VV} (h : w.heap[b]? = some (twoO v)) : HoldsV w (.slice (some ⟨b, 0, none⟩) 2 2) [v, v] := by
  refine ⟨_, _, rfl, Nat.le_refl _, .inr ⟨_, rfl, fun i x hx => ?_⟩⟩
  rcases i with _ | _ | i
  · simp only [List.getElem?_cons_zero, Option.some.injEq] at hx
    subst hx
    simp only [Addr.add_at, cell_of_row _ _ _ _ _ _ h]
    exact ⟨rfl, rfl, rfl⟩
  · simp only [List.getElem?_cons_succ, List.getElem?_cons_zero, Option.some.injEq] at hx
    subst hx
    simp only [Addr.add_at, cell_of_row _ _ _ _ _ _ h]
    exact ⟨rfl, rfl, rfl⟩
  · simp at hx
theorem added_two {v : VV} {s0 s1 : Nat × Sv} {st : List (Nat × Sv)} (h : Added [v, v] [0, 0] [s0, s1] st) : st = [addS v 0 s0, addS v 0 s1] := by
  obtain ⟨h1, h2⟩ := h
  have e0 := h2 0 v 0 s0 rfl rfl rfl
  have e1 := h2 1 v 0 s1 rfl rfl rfl
  match st, h1 with
  | [a, b], _ =>
    simp only [List.getElem?_cons_zero, List.getElem?_cons_succ, Option.some.injEq] at e0 e1
    rw [e0, e1]
end Go.Proofs.YtlhpbfjelgmkeaaGreat
/- The document's examples hold in any world. Conditions: none. -/
set_option maxRecDepth 100000
namespace Go.Proofs.YtlhpbfjelgmkeaaGreat
open Go.RowKit Go.Maps Go.Sort Go.Lib
open Wide

def lvN : Nat → Int | 0 => 0 | 1 => 5 | 2 => 5 | _ => 12
def lvn : Nat → Nat | 0 => 0 | 1 => 1 | 2 => 1 | _ => 2
def v5 : VV := ⟨1, 5, ⟨#[]⟩⟩
def v7 : VV := ⟨1, 7, ⟨#[]⟩⟩
def lvl : Nat → VV | 0 => VV.none_ | _ => v5
def lvV : Nat → VV | 0 => v5 | 1 => VV.none_ | _ => v7
def lvSt (b0 b1 m : Nat) : List (Nat × Sv) := [(b0, .sum (lvN m) (lvn m)), (b1, .low (lvl m))]
def lvMs : List (Int × ByteArray) := [(2, ⟨#[]⟩), (3, ⟨#[]⟩)]
def CVl (b0 b1 m : Nat) : Cv := ⟨lvMs, [1, 1], 4, [(3, 1)], 4, 2, m, lvSt b0 b1 m⟩
theorem lv_next (b0 b1 : Nat) : ∀ m, m < 3 → [addS (lvV m) 0 (b0, .sum (lvN m) (lvn m)), addS (lvV m) 0 (b1, .low (lvl m))] = lvSt b0 b1 (m + 1)
  | 0, _ => rfl
  | 1, _ => rfl
  | 2, _ => rfl
theorem lv_fits : ∀ m, m < 3 → fitsL [lvV m, lvV m] [1, 1] = true
  | 0, _ => by kernel_rfl
  | 1, _ => by kernel_rfl
  | 2, _ => by kernel_rfl
theorem v5_fine : v5.fine := ⟨by decide, by decide, by decide⟩
theorem lvV_fine : ∀ m, (lvV m).fine
  | 0 => v5_fine
  | 1 => ⟨by decide, by decide, by decide⟩
  | _ + 2 => (show v7.fine from ⟨by decide, by decide, by decide⟩)
theorem lvl_fine : ∀ m, (lvl m).fine
  | 0 => ⟨by decide, by decide, by decide⟩
  | _ + 1 => v5_fine
theorem lv_small (b0 b1 m : Nat) : ∀ s ∈ lvSt b0 b1 m, smallS 10 s.2 := fun s hs => by
  unfold lvSt at hs
  simp only [List.mem_cons, List.not_mem_nil, or_false] at hs
  rcases hs with rfl | rfl
  · show lvn m ≤ 10 ∧ -(((10 : Nat) : Int) * 9223372036854775808) ≤ lvN m ∧ lvN m ≤ ((10 : Nat) : Int) * 9223372036854775808
    rcases m with _ | _ | _ | m
    · exact ⟨by decide, by decide, by decide⟩
    · exact ⟨by decide, by decide, by decide⟩
    · exact ⟨by decide, by decide, by decide⟩
    · show (2 : Nat) ≤ 10 ∧ -(((10 : Nat) : Int) * 9223372036854775808) ≤ 12 ∧ (12 : Int) ≤ ((10 : Nat) : Int) * 9223372036854775808
      exact ⟨by decide, by decide, by decide⟩
  · exact lvl_fine m
theorem begun_sum {t : Nat} {S : List (Nat × Nat)} {K M k : Int} {s : Sv} (h : Begun t S K M 2 k s) : s = .sum 0 0 := by
  rcases h with ⟨h, _⟩ | ⟨_, h⟩ | ⟨h, _⟩ | ⟨h, _⟩ | ⟨h, _⟩ | ⟨h, _⟩ | ⟨h, _⟩
  · omega
  · exact h
  · omega
  · omega
  · omega
  · omega
  · omega
theorem begun_low {t : Nat} {S : List (Nat × Nat)} {K M k : Int} {s : Sv} (h : Begun t S K M 3 k s) : s = .low VV.none_ := by
  rcases h with ⟨h, _⟩ | ⟨h, _⟩ | ⟨_, h⟩ | ⟨h, _⟩ | ⟨h, _⟩ | ⟨h, _⟩ | ⟨h, _⟩
  · omega
  · omega
  · exact h
  · omega
  · omega
  · omega
  · omega
theorem new_two {C : Cv} (h : NewC lvMs [1, 1] 4 [(3, 1)] 4 2 2 C) : ∃ b0 b1, C = CVl b0 b1 0 := by
  obtain ⟨ms, ks, t, S, K, M, rows, st⟩ := C
  obtain ⟨e1, e2, e3, e4, e5, e6, e7, e8, e9⟩ := h
  simp only at e1 e2 e3 e4 e5 e6 e7 e8 e9
  match st, e8 with
  | [(b0, s0), (b1, s1)], _ =>
    have h0 := begun_sum (e9 0 _ _ _ rfl rfl rfl)
    have h1 := begun_low (e9 1 _ _ _ rfl rfl rfl)
    simp only at h0 h1
    subst h0 h1 e2 e3 e4 e5 e6 e7
    refine ⟨b0, b1, ?_⟩
    rw [e1]
    rfl
def mO : Obj := .cells #[.int .i64 2, .string ⟨#[]⟩, .int .i64 3, .string ⟨#[]⟩] 25 (0, 0)
def kO : Obj := .cells #[.int .i64 1, .int .i64 1] 3 (0, 0)
def zO : Obj := .cells #[.int .i64 0, .int .i64 0] 3 (0, 0)
def valO (v : VV) : Obj := .cells #[.int .i64 v.k, .int .i64 v.n, .string v.s] 36 (0, 0)
theorem holds_ints {w : World} {b : Nat} {x y : Int} (h : w.heap[b]? = some (.cells #[.int .i64 x, .int .i64 y] 3 (0, 0))) : Holds w (.slice (some ⟨b, 0, none⟩) 2 2) (i64s [x, y]) := Holds.of_heap h rfl 2 2 rfl (Nat.le_refl _)
def lvE (w : World) (b : Nat) : List (Nat × Thing) := [(103, Box b seedO), (102, Box (w.heap.size + 1) kO), (101, Box w.heap.size mO)]
theorem lvE_off (w : World) (b : Nat) : tagsOff 0 (lvE w b) := fun e he => by
  unfold lvE at he
  simp only [List.mem_cons, List.not_mem_nil, or_false] at he
  rcases he with rfl | rfl | rfl <;> exact .inr (by dsimp only; omega)
/-- a row more of the example -/
theorem lv_add {w wr : World} {q b b0 b1 m : Nat} {L : Lay} (h : Side w (cellE 0 q L (CVl b0 b1 m) ++ lvE w b) wr) (hm : m < 3) :
    Calls Tryz.prog 12 #[.pointer (some ⟨q, 0, none⟩), .slice (some ⟨wr.heap.size + 1, 0, none⟩) 2 2, .slice (some ⟨wr.heap.size + 1 + 1, 0, none⟩) 2 2] (((wr.alloc (valO (lvV m))).alloc (twoO (lvV m))).alloc zO) fun e w' => ∃ c, e = .returned (.int .i64 c) ∧ Hid (Side w (cellE 0 q L (CVl b0 b1 (m + 1)) ++ lvE w b) w') := by
  have hz1 : (wr.alloc (valO (lvV m))).heap.size = wr.heap.size + 1 := by simp
  have hz2 : ((wr.alloc (valO (lvV m))).alloc (twoO (lvV m))).heap.size = wr.heap.size + 1 + 1 := by simp
  have S1 := ((h.alloc 104 (valO (lvV m))).alloc 105 (twoO (lvV m))).alloc 106 zO
  rw [hz1, hz2] at S1
  have S2 := S1.sub (E' := cellE 0 q L (CVl b0 b1 m) ++ ((106, Box (wr.heap.size + 1 + 1) zO) :: (105, Box (wr.heap.size + 1) (twoO (lvV m))) :: lvE w b)) (fun x hx => by
    simp only [List.mem_append, List.mem_cons] at hx ⊢
    rcases hx with hx | hx | hx | hx <;> simp [hx])
  have hE : tagsOff 0 ((106, Box (wr.heap.size + 1 + 1) zO) :: (105, Box (wr.heap.size + 1) (twoO (lvV m))) :: lvE w b) := fun e he => by
    rcases List.mem_cons.1 he with rfl | he
    · exact .inr (by dsimp only; omega)
    rcases List.mem_cons.1 he with rfl | he
    · exact .inr (by dsimp only; omega)
    · exact lvE_off w b e he
  refine (cadd_any (m := 10) (xs := [lvV m, lvV m]) (ids := [0, 0]) S2 hE (fun W hW => holds_two (hW.heap (i := 105) (List.mem_cons_of_mem _ (List.mem_cons_self ..)))) (fun W hW => holds_ints (hW.heap (i := 106) (List.mem_cons_self ..))) (by decide) rfl rfl rfl rfl (by show 1 ≤ 4; decide) (by show m ≤ 1000000; omega) (by decide) (lv_small b0 b1 m)
    (fun v hv => ?_) (fun d hd => by have : d = 0 := by simpa using hd
                                     rw [this]; exact ⟨by decide, by decide⟩) (fun _ v hv => ?_) (fun k hk => ?_)).mono ?_
  · have : v = lvV m := by simpa using hv
    rw [this]
    exact (lvV_fine m).2
  · have : v = lvV m := by simpa using hv
    rw [this]
    exact lvV_fine m
  · have : k = 1 := by simpa [CVl] using hk
    rw [this]
    exact ⟨by decide, by decide⟩
  rintro e w' (⟨_, rfl, st', ha, _, S3⟩ | ⟨hf, _⟩)
  · have := added_two ha
    rw [lv_next b0 b1 m hm] at this
    subst this
    refine ⟨_, rfl, Lib.hid (S3.out.sub (fun x hx => ?_))⟩
    have e1 : addC (CVl b0 b1 m) (lvSt b0 b1 (m + 1)) = CVl b0 b1 (m + 1) := rfl
    rw [e1]
    simp only [List.mem_append, List.mem_cons] at hx ⊢
    rcases hx with hx | hx <;> simp [hx]
  · rw [show fitsL [lvV m, lvV m] (CVl b0 b1 m).ks = true from lv_fits m hm] at hf
    cases hf
end Go.Proofs.YtlhpbfjelgmkeaaGreat
/- The document's examples hold in any world: the walk. Conditions: none. -/
set_option maxRecDepth 100000
namespace Go.Proofs.YtlhpbfjelgmkeaaGreat
open Go.RowKit Go.Maps Go.Sort Go.Lib
open Wide

set_option maxHeartbeats 6400000 in
theorem clives_any (w : World) : Calls Tryz.prog 11 #[] w fun e w' => e = .returned (.bool true) ∧ Below w.heap.size w w' := by
  have hz1 : (w.alloc mO).heap.size = w.heap.size + 1 := by simp
  have S0 := ((Side.nil w).alloc 101 mO).alloc 102 kO
  rw [hz1] at S0
  have KS := set_any S0 103
  clear S0 hz1
  go_enter Tryz.func11, Tryz.ntmps11
  go_wp2_with fail
  refine KS.mono ?_
  rintro e w1 ⟨b, rfl, S1⟩
  have S1 : Hid (Side w (lvE w b) w1) := S1
  have KN := cnew_any S1.out 0 (lvE_off w b) (a1 := some ⟨w.heap.size, 0, none⟩) (a2 := some ⟨w.heap.size + 1, 0, none⟩) (n1 := 2) (n2 := 2) (c1 := 2) (c2 := 2) (ms := lvMs) (ks := [1, 1])
    (fun W hW => holds2_heap rfl (hW.heap (i := 101) (b := w.heap.size) (ob := mO) (by unfold lvE; simp)) rfl) (fun W hW => holds_ints (hW.heap (i := 102) (b := w.heap.size + 1) (ob := kO) (by unfold lvE; simp))) (fun W hW => set_box (hW.heap (i := 103) (b := b) (ob := seedO) (by unfold lvE; simp))) 4 4 2 (by decide) rfl (by decide) (fun j m k hm hk => by
      rcases j with _ | _ | j
      · cases hm; cases hk
        exact ⟨⟨⟨by decide, by decide⟩, .inr (.inl ⟨rfl, rfl⟩)⟩, by decide⟩
      · cases hm; cases hk
        exact ⟨⟨⟨by decide, by decide⟩, .inr (.inr (.inl rfl))⟩, by decide⟩
      · simp at hk)
  clear KS S1
  go_wp2_with fail
  refine KN.mono ?_
  rintro e w2 ⟨q, L, C, rfl, hC, S2⟩
  obtain ⟨b0, b1, rfl⟩ := new_two hC
  clear KN hC
  have i0 : ∀ W, (Instr.index 100 (.agg #[.int .i64 1, .int .i64 5, .string ⟨#[]⟩, .int .i64 0, .int .i64 0, .string ⟨#[]⟩, .int .i64 1, .int .i64 7, .string ⟨#[]⟩]) (.int .i64 0)).run Tryz.prog W = .ok (.agg #[.int .i64 1, .int .i64 5, .string ⟨#[]⟩]) W := fun _ => by kernel_rfl
  have i1 : ∀ W, (Instr.index 100 (.agg #[.int .i64 1, .int .i64 5, .string ⟨#[]⟩, .int .i64 0, .int .i64 0, .string ⟨#[]⟩, .int .i64 1, .int .i64 7, .string ⟨#[]⟩]) (.int .i64 1)).run Tryz.prog W = .ok (.agg #[.int .i64 0, .int .i64 0, .string ⟨#[]⟩]) W := fun _ => by kernel_rfl
  have i2 : ∀ W, (Instr.index 100 (.agg #[.int .i64 1, .int .i64 5, .string ⟨#[]⟩, .int .i64 0, .int .i64 0, .string ⟨#[]⟩, .int .i64 1, .int .i64 7, .string ⟨#[]⟩]) (.int .i64 2)).run Tryz.prog W = .ok (.agg #[.int .i64 1, .int .i64 7, .string ⟨#[]⟩]) W := fun _ => by kernel_rfl
  go_wp2_with fail
  go_loopw [23] (fun s23 wr => ∃ m : Nat, s23 = .int .i64 m ∧ m ≤ 3 ∧ Hid (Side w (cellE 0 q L (CVl b0 b1 m) ++ lvE w b) wr)) (fun s23 _ => 3 - (RowKit.intOf s23).toNat)
  case atStart => exact ⟨0, rfl, by omega, S2⟩
  case round =>
    obtain ⟨m, rfl, hm, HR⟩ := hrel
    rcases (by omega : m = 0 ∨ m = 1 ∨ m = 2 ∨ m = 3) with rfl | rfl | rfl | rfl
    · have KA := lv_add HR.out (by decide)
      unfold lvV valO twoO zO at KA
      unfold v5 at KA
      simp only at KA
      clear HR S2
      go_wp2_with fail
      refine KA.mono ?_
      rintro e w5 ⟨c, rfl, S6⟩
      clear KA
      go_wp2_with fail
      go_roundw
      case rel => exact ⟨1, rfl, by omega, S6⟩
      case measure => simp [RowKit.intOf]
    · have KA := lv_add HR.out (by decide)
      unfold lvV valO twoO zO at KA
      unfold VV.none_ at KA
      simp only at KA
      clear HR S2
      go_wp2_with fail
      refine KA.mono ?_
      rintro e w5 ⟨c, rfl, S6⟩
      clear KA
      go_wp2_with fail
      go_roundw
      case rel => exact ⟨2, rfl, by omega, S6⟩
      case measure => simp [RowKit.intOf]
    · have KA := lv_add HR.out (by decide)
      unfold lvV valO twoO zO at KA
      unfold v7 at KA
      simp only at KA
      clear HR S2
      go_wp2_with fail
      refine KA.mono ?_
      rintro e w5 ⟨c, rfl, S6⟩
      clear KA
      go_wp2_with fail
      go_roundw
      case rel => exact ⟨3, rfl, by omega, S6⟩
      case measure => simp [RowKit.intOf]
    · have S3 := HR
      clear HR S2 i0 i1 i2
      have m1 : (0, OBox q (celO L (CVl b0 b1 3))) ∈ cellE 0 q L (CVl b0 b1 3) ++ lvE w b := by unfold cellE; simp
      have m2 : (0 + 2, RowT 97 1 L.sv (CVl b0 b1 3).st.length (vals (CVl b0 b1 3).st)) ∈ cellE 0 q L (CVl b0 b1 3) ++ lvE w b := by unfold cellE; simp
      have m3 : (5, OBox b0 (sumO 12 2)) ∈ cellE 0 q L (CVl b0 b1 3) ++ lvE w b := by unfold cellE CVl lvSt; simp [stE, StT, lvN, lvn]
      have m4 : (6, OBox b1 (lowO v5)) ∈ cellE 0 q L (CVl b0 b1 3) ++ lvE w b := by unfold cellE CVl lvSt; simp [stE, StT, lvl]
      have KS := csum_at S3.out m1 m2 (by show 1 ≤ 4; decide) (m := 0) (b := b0) (n := 2) (N := 12) rfl m3
      have KL := Lib.hid (fun (W : World) (hW : Side w (cellE 0 q L (CVl b0 b1 3) ++ lvE w b) W) => cleast_at hW m1 m2 (by show 1 ≤ 4; decide) (m := 1) (b := b1) (v := v5) rfl m4 v5_fine)
      have KC := Lib.hid (fun (W : World) (hW : Side w (cellE 0 q L (CVl b0 b1 3) ++ lvE w b) W) => ccount_sum hW m1 m2 (by show 1 ≤ 4; decide) (m := 0) (b := b0) (n := 2) (N := 12) rfl)
      have KR := Lib.hid (fun (W : World) (hW : Side w (cellE 0 q L (CVl b0 b1 3) ++ lvE w b) W) => crows_at (hW.heapO m1) (by show 1 ≤ 4; decide))
      rw [show wv 12 = .agg #[.int .i64 0, .int .u64 12] from rfl] at KS
      clear m1 m2 m3 m4
      go_wp2_with fail
      refine KS.mono ?_
      rintro e w5 ⟨rfl, hb5⟩
      have S5 := Lib.hid (S3.out.below hb5)
      have S6 := Lib.hid (S5.out.alloc 107 (.cells #[.int .i64 0, .int .u64 12] 45))
      have KL1 := KL.out _ (S6.out.sub (fun x hx => List.mem_cons_of_mem _ hx))
      rw [show v5.val = .agg #[.int .i64 1, .int .i64 5, .string ⟨#[]⟩] from rfl] at KL1
      clear KS hb5 S3 KL
      go_wp2_with fail
      refine KL1.mono ?_
      rintro e w7 ⟨rfl, hb7⟩
      have S7 := Lib.hid (S6.out.below hb7)
      have S8 := Lib.hid (S7.out.alloc 108 (.cells #[.int .i64 1, .int .i64 5, .string ⟨#[]⟩] 36))
      have KC1 := KC.out _ (S8.out.sub (fun x hx => List.mem_cons_of_mem _ (List.mem_cons_of_mem _ hx)))
      clear KL1 hb7 S6 KC S7
      go_wp2_with fail
      refine KC1.mono ?_
      rintro e w8 ⟨rfl, rfl⟩
      clear KC1
      have KR1 := KR.out _ (S8.out.drew.sub (fun x hx => List.mem_cons_of_mem _ (List.mem_cons_of_mem _ hx)))
      rw [show ((CVl b0 b1 3).rows : Int) = 3 from rfl] at KR1
      have KO := Lib.hid (fun W => Wide.of_any 12 W (by decide) (by decide))
      have KE : ∀ W, (binOp .eql 45 (.agg #[.int .i64 0, .int .u64 12]) (.agg #[.int .i64 0, .int .u64 12])).run Tryz.prog W = .ok (.bool true) W := fun _ => by kernel_rfl
      have KU : ∀ (x y : Operand) (W : World), (eqGuard .eql 45 x y (.agg #[.int .i64 0, .int .u64 12]) (.agg #[.int .i64 0, .int .u64 12])).run Tryz.prog W = .ok () W := fun _ _ _ => by kernel_rfl
      have HC := Lib.hid (fun (V : World) (hV : Below (w7.alloc (.cells #[.int .i64 1, .int .i64 5, .string ⟨#[]⟩] 36)).heap.size (w7.alloc (.cells #[.int .i64 1, .int .i64 5, .string ⟨#[]⟩] 36)) V) => (show (V.cell? ⟨w5.heap.size, 0, none⟩ = some (.int .i64 0) ∧ V.cell? ⟨w5.heap.size, 1, none⟩ = some (.int .u64 12)) ∧ V.cell? ⟨w7.heap.size, 1, none⟩ = some (.int .i64 5) from by
        have g := S8.out.below hV
        have g1 := g.heap (i := 107) (List.mem_cons_of_mem _ (List.mem_cons_self ..))
        have g2 := g.heap (i := 108) (List.mem_cons_self ..)
        exact ⟨⟨by rw [cell_of_row _ _ _ _ _ _ g1]; rfl, by rw [cell_of_row _ _ _ _ _ _ g1]; rfl⟩, by rw [cell_of_row _ _ _ _ _ _ g2]; rfl⟩))
      have HB8 := Lib.hid S8.out.base
      clear KR S8 S5
      go_wp2_with fail
      refine wp_region_mix (fun V => (V.cell? ⟨w5.heap.size, 0, none⟩ = some (.int .i64 0) ∧ V.cell? ⟨w5.heap.size, 1, none⟩ = some (.int .u64 12)) ∧ V.cell? ⟨w7.heap.size, 1, none⟩ = some (.int .i64 5)) 28 [(true, 0), (false, 1), (true, 2), (true, 3), (true, 4), (true, 5), (true, 6), (true, 7), (true, 8), (true, 9), (true, 10), (true, 11), (false, 12), (true, 13), (true, 14), (true, 15), (true, 16), (true, 17), (true, 18), (true, 19), (true, 20), (true, 21), (true, 22), (true, 23), (true, 24), (true, 25), (true, 26), (true, 27)] (by kernel_rfl) (by decide +kernel) rfl (by decide +kernel) (HC.out _ (below_drew1 _)) ?_
      iterate 1
        refine wpMix_take (v := ?_) rfl rfl ?_ ?_
        rotate_left
        · (intro W hW; (try dsimp only at hW); go_simp) <;> with_reducible rfl
        simp only [Act.put, List.setIfInBounds_toArray, List.set_cons_zero, List.set_cons_succ]
      refine wpMix_run rfl ?_
      intro K' hK'
      go_wp2_with fail
      refine KR1.mono ?_
      rintro e w9 ⟨rfl, rfl⟩
      clear KR1
      go_wp2_with fail
      refine hK'.out _ _ (fun _ => HC.out _ (below_drew1 _)) ?_
      clear hK' K'
      iterate 10
        refine wpMix_take (v := ?_) rfl rfl ?_ ?_
        rotate_left
        · (intro W hW; (try dsimp only at hW); go_simp) <;> with_reducible rfl
        simp only [Act.put, List.setIfInBounds_toArray, List.set_cons_zero, List.set_cons_succ]
      refine wpMix_run rfl ?_
      intro K' hK'
      go_wp2_with fail
      refine (KO.out _).mono ?_
      rintro e w10 ⟨rfl, hb10⟩
      rw [show wv 12 = .agg #[.int .i64 0, .int .u64 12] from rfl]
      have hbA := (below_drew1 (w7.alloc (.cells #[.int .i64 1, .int .i64 5, .string ⟨#[]⟩] 36))).trans (hb10.mono (Nat.le_refl _))
      have C10 := HC.out _ hbA
      have FIN := Lib.hid (HB8.out.trans (hbA.mono HB8.out.size))
      clear hb10 hbA KO HC HB8
      go_wp2_with fail
      refine hK'.out _ _ (fun _ => C10) ?_
      clear hK' K'
      iterate 15
        refine wpMix_take (v := ?_) rfl rfl ?_ ?_
        rotate_left
        · (intro W hW; (try dsimp only at hW); go_simp) <;> with_reducible rfl
        simp only [Act.put, List.setIfInBounds_toArray, List.set_cons_zero, List.set_cons_succ]
      refine wpMix_nil ?_
      go_wp2_with fail
      go_ret
      exact ⟨rfl, FIN.out⟩
end Go.Proofs.YtlhpbfjelgmkeaaGreat
/- CellCopies, walked: what is added to a cell is not in its copy; a cell merged with an empty one is itself. Conditions: none. -/
set_option maxRecDepth 100000
namespace Go.Proofs.YtlhpbfjelgmkeaaGreat
open Go.RowKit Go.Maps Go.Sort Go.Lib

def shpO (a1 : Option Addr) (n1 c1 : Nat) (a2 : Option Addr) (n2 c2 : Nat) (t : Int) (sa : Option Addr) (ns sc : Nat) (K M : Int) : Obj := .cells #[.slice a1 n1 c1, .slice a2 n2 c2, .int .i64 t, .slice sa ns sc, .int .i64 K, .int .i64 M] 52 (0, 0)
theorem cntR_next {A : Mk} {ws : List (List VV)} {k : Nat} {r : List VV} (hr : ws[k]? = some r) {b : Bool} (hb : okRow A r = b) : cntR A (ws.take (k + 1)) = if b = true then cntR A (ws.take k) + 1 else cntR A (ws.take k) := by
  rw [List.take_add_one, hr, ← hb]
  exact cntR_snoc A _ r
set_option maxHeartbeats 25600000 in
theorem copies_walk {w : World} {ms : List (Int × ByteArray)} {ks : List Int} {a1 a2 sa va : Option Addr} {c1 c2 ns sc vc : Nat} {t K M : Int} {S : List (Nat × Nat)} {ws : List (List VV)} (hm : Holds2 w (.slice a1 ms.length c1) (ms.map meaC)) (hk : Holds w (.slice a2 ks.length c2) (i64s ks)) (hs : SetAt w sa ns sc S) (hsz : ∀ m ∈ ms, m.2.size ≤ 140737488355328)
    (hv : RowsH w (.slice va ws.length vc) ws) (hb : ∀ r ∈ ws, r.length * 32 ≤ 140737488355328 ∧ ∀ x ∈ r, x.inI) :
    Calls Tryz.prog 4 #[.agg #[.slice a1 ms.length c1, .slice a2 ks.length c2, .int .i64 t, .slice sa ns sc, .int .i64 K, .int .i64 M], .slice va ws.length vc] w fun e w' => e = .returned (.bool true) ∧ Below w.heap.size w w' := by
  have S0 := (Side.nil w).alloc 801 (shpO a1 ms.length c1 a2 ks.length c2 t sa ns sc K M)
  have HM := Lib.hid (fun (W : World) (hW : Below w.heap.size w W) => hm.kept (fun p u hp => by rw [hW.cell (World.block_lt_of_cell? w p hp)]; exact hp))
  have HK := Lib.hid (fun (W : World) (hW : Below w.heap.size w W) => hk.below hW)
  have HS := Lib.hid (fun (W : World) (hW : Below w.heap.size w W) => hs.below hW)
  have HV := Lib.hid (fun (W : World) (hW : Below w.heap.size w W) => hv.kept (fun p u hp => by rw [hW.cell (World.block_lt_of_cell? w p hp)]; exact hp))
  have HB := Lib.hid hb
  have hz0 : ∀ (V : World) (E : List (Nat × Thing)), (801, Box w.heap.size (shpO a1 ms.length c1 a2 ks.length c2 t sa ns sc K M)) ∈ E → Side w E V → V.cell? ⟨w.heap.size, 0, none⟩ = some (.slice a1 ms.length c1) ∧ V.cell? ⟨w.heap.size, 1, none⟩ = some (.slice a2 ks.length c2) ∧ V.cell? ⟨w.heap.size, 2, none⟩ = some (.int .i64 t) ∧ V.cell? ⟨w.heap.size, 3, none⟩ = some (.slice sa ns sc) ∧ V.cell? ⟨w.heap.size, 4, none⟩ = some (.int .i64 K) ∧ V.cell? ⟨w.heap.size, 5, none⟩ = some (.int .i64 M) := fun V E hx hV => by
    have e := hV.heap hx
    unfold shpO at e
    exact ⟨by rw [cell_of_row _ _ _ _ _ _ e]; rfl, by rw [cell_of_row _ _ _ _ _ _ e]; rfl, by rw [cell_of_row _ _ _ _ _ _ e]; rfl, by rw [cell_of_row _ _ _ _ _ _ e]; rfl, by rw [cell_of_row _ _ _ _ _ _ e]; rfl, by rw [cell_of_row _ _ _ _ _ _ e]; rfl⟩
  have HZ := Lib.hid hz0
  have S1 := Lib.hid S0.drew
  have C1 := hz0 _ _ (List.mem_cons_self ..) S1.out
  clear hm hk hs hv hb S0 hz0
  by_cases hok : newOk ms ks t S K M
  · obtain ⟨A, hA, rfl, rfl, rfl, rfl, rfl, rfl⟩ := hok.mk_ hsz
    have HA := Lib.hid hA
    have KN := fun (V : World) (i : Nat) (E : List (Nat × Thing)) (hE : tagsOff i E) (hV : Side w E V) => cnew_some HA.out hV i hE (a1 := a1) (c1 := c1) (a2 := a2) (c2 := c2) (sa := sa) (ns := ns) (sc := sc) (fun W hW => HM.out W hW.base) (fun W hW => HK.out W hW.base) (fun W hW => HS.out W hW.base)
    unfold setV at KN
    have KN1 := KN _ 0 _ (off_cons (by decide) (off_nil _)) S1.out
    have KNH := Lib.hid KN
    clear hok hA hsz KN
    go_enter Tryz.func4, Tryz.ntmps4
    go_upto_region 1 with (fail)
    refine wp_region_mix (fun V => V.cell? ⟨w.heap.size, 0, none⟩ = some (.slice a1 A.ms.length c1) ∧ V.cell? ⟨w.heap.size, 1, none⟩ = some (.slice a2 A.ks.length c2) ∧ V.cell? ⟨w.heap.size, 2, none⟩ = some (.int .i64 (A.t : Int)) ∧ V.cell? ⟨w.heap.size, 3, none⟩ = some (.slice sa ns sc) ∧ V.cell? ⟨w.heap.size, 4, none⟩ = some (.int .i64 A.K) ∧ V.cell? ⟨w.heap.size, 5, none⟩ = some (.int .i64 A.M)) 16 [(true, 0), (true, 1), (true, 2), (true, 3), (true, 4), (true, 5), (true, 7), (true, 8), (true, 9), (true, 10), (true, 11), (true, 12), (false, 6), (false, 13), (true, 14), (true, 15)] (by kernel_rfl) (by decide +kernel) rfl (by decide +kernel) C1 ?_
    iterate 12
      refine wpMix_take (v := ?_) rfl rfl ?_ ?_
      rotate_left
      · (intro W hW; (try dsimp only at hW); go_simp) <;> with_reducible rfl
      simp only [Act.put, List.setIfInBounds_toArray, List.set_cons_zero, List.set_cons_succ]
    refine wpMix_run rfl ?_
    intro K' hK'
    go_wp2_with fail
    refine KN1.mono ?_
    rintro e w2 ⟨q1, L1, D1, rfl, hC1, hc1, S2⟩
    have C2 := HZ.out _ _ (List.mem_append_right _ (List.mem_cons_self ..)) S2.out
    have KN2 := KNH.out _ 200 _ (off_cell (by rw [hC1.len]; exact HA.out.l16) (by decide) (off_cons (by decide) (off_nil _))) S2.out
    clear KN1 S1 C1
    go_wp2_with fail
    refine hK'.out _ _ (fun _ => C2) ?_
    clear hK' K' C2
    refine wpMix_run rfl ?_
    intro K' hK'
    go_wp2_with fail
    refine KN2.mono ?_
    rintro e w3 ⟨q2, L2, D2, rfl, hC2, _, S3⟩
    have S4 : Hid (∃ C, CI A 0 C ∧ Side w (cellE 0 q1 L1 C ++ (cellE 200 q2 L2 D2 ++ [])) w3) := Lib.hid ⟨D1, hC1, S3.out.sub (fun x hx => by
      simp only [List.mem_append, List.mem_cons, List.not_mem_nil, or_false] at hx ⊢
      rcases hx with hx | hx <;> simp [hx])⟩
    have HC2 := Lib.hid hC2
    have HCP := Lib.hid hc1
    have C3 := HZ.out _ _ (List.mem_append_right _ (List.mem_append_right _ (List.mem_cons_self ..))) S3.out
    clear KN2 S2 S3 hC1 hC2 hc1 KNH
    go_wp2_with fail
    refine hK'.out _ _ (fun _ => C3) ?_
    clear hK' K' C3
    iterate 2
      refine wpMix_take (v := ?_) rfl rfl ?_ ?_
      rotate_left
      · (intro W hW; (try dsimp only at hW); go_simp) <;> with_reducible rfl
      simp only [Act.put, List.setIfInBounds_toArray, List.set_cons_zero, List.set_cons_succ]
    refine wpMix_nil ?_
    by_cases h100 : 100 < ws.length
    · have t0 : (100 : Int) < (ws.length : Int) := by omega
      have KL := clives_any w3
      have FI : Hid (Below w.heap.size w w3) := Lib.hid (by obtain ⟨C, _, hS⟩ := S4.out; exact hS.base)
      clear S4 h100
      go_wp2_with fail
      refine KL.mono ?_
      rintro e w7 ⟨rfl, hb7⟩
      have F2 := FI.out.trans (hb7.mono FI.out.size)
      clear hb7 KL FI
      go_wp2_with fail
      go_ret
      exact ⟨rfl, F2⟩
    have t0 : ¬ (100 : Int) < (ws.length : Int) := by omega
    have H100 := Lib.hid (show ws.length ≤ 100 by omega)
    obtain ⟨N, hN⟩ : ∃ N, ws.length = N := ⟨_, rfl⟩
    rw [hN] at HV t0 H100
    rw [hN]
    have HN := Lib.hid hN
    clear h100 hN
    go_wp2_with fail
    clear t0
    go_loopw [7, 48] (fun s7 s48 wr => ∃ k : Nat, s48 = .int .i64 k ∧ k ≤ N ∧ s7 = .int .i64 ((cntR A (ws.take k) : Nat) : Int) ∧ Hid (∃ C, CI A (cntR A (ws.take k)) C ∧ Side w (cellE 0 q1 L1 C ++ (cellE 200 q2 L2 D2 ++ [])) wr)) (fun _ s48 _ => N - (RowKit.intOf s48).toNat)
    case atStart => exact ⟨0, rfl, by omega, rfl, S4⟩
    case round =>
      clear S4
      obtain ⟨k, rfl, hk, rfl, HR⟩ := hrel
      by_cases hlt : k < N
      · obtain ⟨r, hr⟩ : ∃ r, ws[k]? = some r := ⟨_, List.getElem?_eq_getElem (by rw [HN.out]; exact hlt)⟩
        obtain ⟨hrb, hri⟩ := HB.out r (List.mem_of_getElem? hr)
        obtain ⟨C, hC, hS⟩ := HR.out
        have HLT := Lib.hid hlt
        obtain ⟨ad, ra, rc, ha, hcell, hrow⟩ := (HV.out wr hS.base).at_ hr
        rcases ha with rfl
        have hra := fun (W : World) (hW : Below w.heap.size w W) => HV.out W hW
        obtain ⟨rn, hrn⟩ : ∃ rn, r.length = rn := ⟨_, rfl⟩
        rw [hrn] at hcell hrow hrb
        have hrow2 : ∀ W, Below w.heap.size w W → HoldsV W (.slice ra rn rc) r := fun W hW => by
          obtain ⟨ad0, ra0, rc0, e0, hc0, hrow0⟩ := (HV.out W hW).at_ hr
          obtain rfl := Option.some.inj e0
          have h1 := (HV.out w (Below.refl _ _)).at_ hr
          obtain ⟨ad1, ra1, rc1, e1, hc1, _⟩ := h1
          obtain rfl := Option.some.inj e1
          have hw1 : W.cell? (ad.add k) = some (.slice ra1 r.length rc1) := by rw [hW.cell (World.block_lt_of_cell? w _ hc1)]; exact hc1
          have hw2 : wr.cell? (ad.add k) = some (.slice ra1 r.length rc1) := by rw [hS.base.cell (World.block_lt_of_cell? w _ hc1)]; exact hc1
          rw [hcell] at hw2
          rw [hc0] at hw1
          have h3 := Option.some.inj hw2
          have h4 := Option.some.inj hw1
          rw [h3, ← h4]
          exact hrow0
        have KA := ci_add HA.out hS (off_cell (by rw [HC2.out.len]; exact HA.out.l16) (by decide) (off_nil _)) (by decide) hC (by have := cntR_le A (ws.take k); have h4 : (ws.take k).length ≤ k := List.length_take_le _ _; have := H100.out; have := HLT.out; omega) hri hrn hrow2
        obtain ⟨b, hb⟩ : ∃ b, okRow A r = b := ⟨_, rfl⟩
        rw [hb] at KA
        have HNX := Lib.hid (cntR_next hr hb)
        have hmk := fun W => mk_zeros W rn hrb
        have l0 : (0 : Int) ≤ (k : Int) := Int.natCast_nonneg k
        have l1 : (k : Int) < (N : Int) := Int.ofNat_lt.2 hlt
        have hwk : IntKind.i64.wrap ((k : Int) + 1) = (k : Int) + 1 := by rw [IntKind.wrap_i64]; have := H100.out; omega
        clear hr hri hC hS HR hlt hk hrow hra hrow2 hrn hb hrb
        obtain ⟨m, hm⟩ : ∃ m, cntR A (ws.take k) = m := ⟨_, rfl⟩
        have hml : m ≤ 100 := by rw [← hm]; have := cntR_le A (ws.take k); have h4 : (ws.take k).length ≤ k := List.length_take_le _ _; have := H100.out; have := HLT.out; omega
        have hwm : IntKind.i64.wrap ((m : Int) + 1) = (m : Int) + 1 := by rw [IntKind.wrap_i64]; omega
        rw [hm] at KA HNX ⊢
        clear hm hml
        go_wp2_with fail
        refine KA.mono ?_
        rintro e w8 ⟨c, rfl, hcb, T⟩
        clear KA hmk
        cases b
        · rw [if_neg (by simp)] at T
          have hnx := HNX.out
          rw [if_neg (by simp)] at hnx
          clear hwm
          go_wp2_with fail
          go_roundw
          case rel => exact ⟨k + 1, by go_num, by have := HLT.out; omega, by rw [hnx], by rw [hnx]; exact T⟩
          case measure => have := HLT.out; simp [RowKit.intOf]; omega
        · rw [if_pos rfl] at T
          have hnx := HNX.out
          rw [if_pos rfl] at hnx
          have HNX2 := Lib.hid hnx
          clear hnx HNX
          go_wp2_with fail
          go_roundw
          case rel => exact ⟨k + 1, by go_num, by have := HLT.out; omega, by rw [HNX2.out]; rfl, by rw [HNX2.out]; exact T⟩
          case measure => have := HLT.out; simp [RowKit.intOf]; omega
      · obtain ⟨C, hC, hS⟩ := HR.out
        have hkN : k = N := by omega
        have e0 : ws.take k = ws := List.take_of_length_le (by rw [HN.out]; omega)
        rw [e0] at hC ⊢
        have hml : cntR A ws ≤ 100 := by have := cntR_le A ws; have := HN.out; have := H100.out; omega
        obtain ⟨n, hn⟩ : ∃ n, cntR A ws = n := ⟨_, rfl⟩
        rw [hn] at hC hml ⊢
        have KC := ccopy_at (i3 := 400) hS HA.out hC (by omega) HCP.out (by decide) (off_cell (by rw [HC2.out.len]; exact HA.out.l16) (by decide) (off_nil _))
        have HC1 := Lib.hid hC
        have HNN := Lib.hid hml
        have HCN := Lib.hid hn
        have hlt' : ¬ ((k : Int) < (N : Int)) := by omega
        clear HR hC hS hkN e0 hml hn hlt hk
        go_wp2_with fail
        refine KC.mono ?_
        rintro e w9 ⟨q3, L3, D3, rfl, hC3, S5⟩
        have HC3 := Lib.hid hC3
        have S6 := S5.out.sub (E' := cellE 0 q1 L1 C ++ (cellE 200 q2 L2 D2 ++ (cellE 400 q3 L3 D3 ++ []))) (fun x hx => by
          simp only [List.mem_append, List.not_mem_nil, or_false] at hx ⊢
          rcases hx with hx | hx | hx <;> simp [hx])
        have KM := ci_merge HA.out S6 (off_cell (by rw [hC3.len]; exact HA.out.l16) (by decide) (off_nil _)) (by decide) HC1.out HC2.out (by have := HNN.out; omega) (by decide)
        rw [Nat.add_zero] at KM
        clear KC hC3 S5 S6
        go_wp2_with fail
        refine KM.mono ?_
        rintro e w10 ⟨rfl, S7⟩
        obtain ⟨C4, hC4, hS4⟩ := S7.out
        have KR := ci_rows HA.out hS4 hC4
        have S8 : Hid (∃ C, CI A (n + cntR A (ws.take 0)) C ∧ Side w (cellE 0 q1 L1 C ++ (cellE 200 q2 L2 D2 ++ (cellE 400 q3 L3 D3 ++ []))) w10) := Lib.hid ⟨C4, hC4, hS4⟩
        have t1 : ((n : Int) != (n : Int)) = false := by simp
        clear KM S7 hC4 hS4
        go_wp2_with fail
        refine KR.mono ?_
        rintro e w11 ⟨rfl, rfl⟩
        clear KR
        go_wp2_with fail
        clear t1 hlt'
        go_loopw [80] (fun s80 wr => ∃ k : Nat, s80 = .int .i64 k ∧ k ≤ N ∧ Hid (∃ C, CI A (n + cntR A (ws.take k)) C ∧ Side w (cellE 0 q1 L1 C ++ (cellE 200 q2 L2 D2 ++ (cellE 400 q3 L3 D3 ++ []))) wr)) (fun s80 _ => N - (RowKit.intOf s80).toNat)
        case atStart => exact ⟨0, rfl, by omega, S8⟩
        case round =>
          clear S8
          obtain ⟨k, rfl, hk, HR⟩ := hrel
          by_cases hlt : k < N
          · obtain ⟨r, hr⟩ : ∃ r, ws[k]? = some r := ⟨_, List.getElem?_eq_getElem (by rw [HN.out]; exact hlt)⟩
            obtain ⟨hrb, hri⟩ := HB.out r (List.mem_of_getElem? hr)
            obtain ⟨C, hC, hS⟩ := HR.out
            have HLT := Lib.hid hlt
            obtain ⟨ad, ra, rc, ha, hcell, hrow⟩ := (HV.out wr hS.base).at_ hr
            rcases ha with rfl
            have hra := fun (W : World) (hW : Below w.heap.size w W) => HV.out W hW
            obtain ⟨rn, hrn⟩ : ∃ rn, r.length = rn := ⟨_, rfl⟩
            rw [hrn] at hcell hrow hrb
            have hrow2 : ∀ W, Below w.heap.size w W → HoldsV W (.slice ra rn rc) r := fun W hW => by
              obtain ⟨ad0, ra0, rc0, e0, hc0, hrow0⟩ := (HV.out W hW).at_ hr
              obtain rfl := Option.some.inj e0
              have h1 := (HV.out w (Below.refl _ _)).at_ hr
              obtain ⟨ad1, ra1, rc1, e1, hc1, _⟩ := h1
              obtain rfl := Option.some.inj e1
              have hw1 : W.cell? (ad.add k) = some (.slice ra1 r.length rc1) := by rw [hW.cell (World.block_lt_of_cell? w _ hc1)]; exact hc1
              have hw2 : wr.cell? (ad.add k) = some (.slice ra1 r.length rc1) := by rw [hS.base.cell (World.block_lt_of_cell? w _ hc1)]; exact hc1
              rw [hcell] at hw2
              rw [hc0] at hw1
              have h3 := Option.some.inj hw2
              have h4 := Option.some.inj hw1
              rw [h3, ← h4]
              exact hrow0
            have KA := ci_add HA.out hS (off_cell (by rw [HC2.out.len]; exact HA.out.l16) (by decide) (off_cell (by rw [HC3.out.len]; exact HA.out.l16) (by decide) (off_nil _))) (by decide) hC (by have := cntR_le A (ws.take k); have h4 : (ws.take k).length ≤ k := List.length_take_le _ _; have := H100.out; have := HLT.out; have := HNN.out; omega) hri hrn hrow2
            obtain ⟨b, hb⟩ : ∃ b, okRow A r = b := ⟨_, rfl⟩
            rw [hb] at KA
            have HNX := Lib.hid (cntR_next hr hb)
            have hmk := fun W => mk_zeros W rn hrb
            have l0 : (0 : Int) ≤ (k : Int) := Int.natCast_nonneg k
            have l1 : (k : Int) < (N : Int) := Int.ofNat_lt.2 hlt
            have hwk : IntKind.i64.wrap ((k : Int) + 1) = (k : Int) + 1 := by rw [IntKind.wrap_i64]; have := H100.out; omega
            clear hr hri hC hS HR hlt hk hrow hra hrow2 hrn hb hrb
            obtain ⟨m, hm⟩ : ∃ m, n + cntR A (ws.take k) = m := ⟨_, rfl⟩
            rw [hm] at KA
            have HM2 := Lib.hid hm
            clear hm
            go_wp2_with fail
            refine KA.mono ?_
            rintro e w8 ⟨c, rfl, hcb, T⟩
            clear KA hmk
            have T2 : Hid (∃ C', CI A (n + cntR A (ws.take (k + 1))) C' ∧ Side w (cellE 0 q1 L1 C' ++ (cellE 200 q2 L2 D2 ++ (cellE 400 q3 L3 D3 ++ []))) w8) := Lib.hid (by
              have h5 := HNX.out
              have h6 := HM2.out
              have h7 : n + cntR A (ws.take (k + 1)) = if b = true then m + 1 else m := by
                rw [h5]
                split <;> omega
              rw [h7]
              exact T.out)
            clear hcb T HNX HM2
            go_wp2_with fail
            go_roundw
            case rel => exact ⟨k + 1, by go_num, by have := HLT.out; omega, T2⟩
            case measure => have := HLT.out; simp [RowKit.intOf]; omega
          · obtain ⟨C, hC, hS⟩ := HR.out
            have hkN : k = N := by omega
            have e0 : ws.take k = ws := List.take_of_length_le (by rw [HN.out]; omega)
            rw [e0, HCN.out] at hC
            have K1 := ci_rows HA.out hS hC
            have K2 := ci_rows HA.out (hS.sub (E' := cellE 200 q2 L2 D2 ++ []) (fun x hx => by simp only [List.mem_append, List.not_mem_nil, or_false] at hx ⊢; simp [hx])) HC2.out
            have K3 := ci_rows HA.out (hS.sub (E' := cellE 400 q3 L3 D3 ++ []) (fun x hx => by simp only [List.mem_append, List.not_mem_nil, or_false] at hx ⊢; simp [hx])) HC3.out
            have KL := clives_any wr
            have FI := Lib.hid hS.base
            have hlt' : ¬ ((k : Int) < (N : Int)) := by omega
            have hw2 : IntKind.i64.wrap (2 * (n : Int)) = ((n + n : Nat) : Int) := by rw [IntKind.wrap_i64]; have := HNN.out; omega
            clear HR hC hS hkN e0 hlt hk
            go_wp2_with fail
            refine K3.mono ?_
            rintro e w8 ⟨rfl, rfl⟩
            clear K3
            go_wp2_with fail
            refine K1.mono ?_
            rintro e w8 ⟨rfl, rfl⟩
            clear K1
            go_wp2_with fail
            refine K2.mono ?_
            rintro e w8 ⟨rfl, rfl⟩
            clear K2
            go_wp2_with fail
            refine KL.mono ?_
            rintro e w8 ⟨rfl, hb8⟩
            have F2 := FI.out.trans (hb8.mono FI.out.size)
            clear KL hb8 FI
            go_wp2_with fail
            go_ret
            exact ⟨rfl, F2⟩
  · have KN := fun (V : World) (E : List (Nat × Thing)) (hE : tagsOff 0 E) (hV : Side w E V) => cnew_none hV (a1 := a1) (c1 := c1) (a2 := a2) (c2 := c2) (sa := sa) (ns := ns) (sc := sc) (fun W hW => HM.out W hW.base) (fun W hW => HK.out W hW.base) (fun W hW => HS.out W hW.base) hsz hE hok
    unfold setV at KN
    have KN1 := KN _ _ (off_cons (by decide) (off_nil _)) S1.out
    have KNH := Lib.hid KN
    clear hok hsz KN
    obtain ⟨n1, hn1⟩ : ∃ n1, ms.length = n1 := ⟨_, rfl⟩
    obtain ⟨n2, hn2⟩ : ∃ n2, ks.length = n2 := ⟨_, rfl⟩
    rw [hn1, hn2] at C1 KN1 HZ KNH S1
    rw [hn1, hn2]
    clear hn1 hn2
    go_enter Tryz.func4, Tryz.ntmps4
    go_upto_region 1 with (fail)
    refine wp_region_mix (fun V => V.cell? ⟨w.heap.size, 0, none⟩ = some (.slice a1 n1 c1) ∧ V.cell? ⟨w.heap.size, 1, none⟩ = some (.slice a2 n2 c2) ∧ V.cell? ⟨w.heap.size, 2, none⟩ = some (.int .i64 t) ∧ V.cell? ⟨w.heap.size, 3, none⟩ = some (.slice sa ns sc) ∧ V.cell? ⟨w.heap.size, 4, none⟩ = some (.int .i64 K) ∧ V.cell? ⟨w.heap.size, 5, none⟩ = some (.int .i64 M)) 16 [(true, 0), (true, 1), (true, 2), (true, 3), (true, 4), (true, 5), (true, 7), (true, 8), (true, 9), (true, 10), (true, 11), (true, 12), (false, 6), (false, 13), (true, 14), (true, 15)] (by kernel_rfl) (by decide +kernel) rfl (by decide +kernel) C1 ?_
    iterate 12
      refine wpMix_take (v := ?_) rfl rfl ?_ ?_
      rotate_left
      · (intro W hW; (try dsimp only at hW); go_simp) <;> with_reducible rfl
      simp only [Act.put, List.setIfInBounds_toArray, List.set_cons_zero, List.set_cons_succ]
    refine wpMix_run rfl ?_
    intro K' hK'
    go_wp2_with fail
    refine KN1.mono ?_
    rintro e w2 ⟨rfl, S2⟩
    have C2 := HZ.out _ _ (List.mem_cons_self ..) S2.out
    have KN2 := KNH.out _ _ (off_cons (by decide) (off_nil _)) S2.out
    clear KN1 S1 C1
    go_wp2_with fail
    refine hK'.out _ _ (fun _ => C2) ?_
    clear hK' K' C2
    refine wpMix_run rfl ?_
    intro K' hK'
    go_wp2_with fail
    refine KN2.mono ?_
    rintro e w3 ⟨rfl, S3⟩
    have KL := clives_any w3
    have FI := Lib.hid S3.out.base
    have C3 := HZ.out _ _ (List.mem_cons_self ..) S3.out
    clear KN2 S2 S3 KNH
    go_wp2_with fail
    refine hK'.out _ _ (fun _ => C3) ?_
    clear hK' K' C3
    iterate 2
      refine wpMix_take (v := ?_) rfl rfl ?_ ?_
      rotate_left
      · (intro W hW; (try dsimp only at hW); go_simp) <;> with_reducible rfl
      simp only [Act.put, List.setIfInBounds_toArray, List.set_cons_zero, List.set_cons_succ]
    refine wpMix_nil ?_
    go_wp2_with fail
    refine KL.mono ?_
    rintro e w7 ⟨rfl, hb7⟩
    have F2 := FI.out.trans (hb7.mono FI.out.size)
    clear hb7 KL FI
    go_wp2_with fail
    go_ret
    exact ⟨rfl, F2⟩
end Go.Proofs.YtlhpbfjelgmkeaaGreat
/- Two closed facts of this translation that every row asks. Conditions: none. -/
namespace Go.Proofs.YtlhpbfjelgmkeaaGreat
theorem own : ownKnob Tryz.prog.godebug = none := by kernel_rfl
theorem laidOut : laidOutB Tryz.prog = true := by kernel_rfl
end Go.Proofs.YtlhpbfjelgmkeaaGreat
