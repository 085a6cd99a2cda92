/- Arguments of SchemaFinds, opened. Conditions: as stated. -/
import Derived.Test.YtjlpmhjnfgmmcaaSchOpen
import Derived.Test.YtjlpmhjnfgmmcaaSchFl
import Derived.SizedLaws
set_option maxRecDepth 100000
namespace Go.Proofs.Ytjlpmhjnfgmmcaa
open Go.ChangeShapes Go.WideShapes Go.ChangeAt Go.RowKit Go.Maps Go.Sort Go.Deep Go.Joins Go.Lib
section
variable {H : Type} {enc : TypeId × Value → H} {w : World}
theorem bytes_col : Try.prog.bytesOf 49 = 24 := by kernel_rfl
theorem cells_kept : Try.prog.cellsOf 43 = 6 := by kernel_rfl
theorem cols_big {fuel : Nat} {v : Value} {y : DataW H × List MemPlace} (h : Tr enc w fuel 24 [v] y) (hl : LimW H 24 y.1) : ∀ (a : Option Addr) (n c : Nat), v = .slice a n c → n * 24 ≤ 140737488355328 := by
  intro a n c e
  rcases open_slice Try.underlying24 h with ⟨h0, _⟩ | ⟨b, len, cap, m, q, D, Pl, hcs, _, hc, _, hm, rfl, hi⟩
  · have : v = .slice none 0 0 := by simpa using h0
    rw [this] at e
    cases e
    omega
  · simp only [List.cons.injEq, and_true] at hcs
    rw [hcs] at e
    cases e
    have h1 := hl _ (by simp only [DataW.weights, Try.underlying24]; exact List.mem_cons_self ..)
    rw [bytes_col] at h1
    simp at h1
    omega
theorem tab_of2 {fuel : Nat} {cs : List Value} {y : DataW H × List MemPlace} (h : Tr enc w fuel 26 cs y) (hl : LimW H 26 y.1) :
    ∃ (tn : ByteArray) (tc : Cl) (a : Value), cs = [.string tn, a] ∧ Holds2 w a (tc.map colC) ∧ tn.size ≤ 140737488355328 ∧ (∀ c ∈ tc, c.1.size ≤ 140737488355328) ∧ tc.length * 24 ≤ 140737488355328 := by
  obtain ⟨xs, n, _, ex, hlen, hxl, hf⟩ := DataW.trod_struct Try.underlying26 h
  rw [cells_tab] at hlen
  obtain ⟨u0, u1, rfl⟩ := two_list hlen
  have f0 : DataW.trod enc Try.prog w 0 (fun _ => true) true n 9 (([u0, u1].drop 0).take (Try.prog.cellsOf 9)) = xs[0]? := hf 0 _ rfl
  have f1 : DataW.trod enc Try.prog w 0 (fun _ => true) true n 24 (([u0, u1].drop 1).take (Try.prog.cellsOf 24)) = xs[1]? := hf 1 _ rfl
  rw [cells_str] at f0
  rw [cells_cols] at f1
  rw [ex] at hl
  obtain ⟨z0, x0⟩ : ∃ z, xs[0]? = some z := ⟨_, List.getElem?_eq_getElem (l := xs) (i := 0) (by rw [hxl]; decide)⟩
  rw [x0] at f0
  have l0 := (limW H).agg _ _ _ 0 _ z0.1 Try.underlying26 hl rfl (by rw [List.getElem?_map, x0]; rfl)
  obtain ⟨z1, x1⟩ : ∃ z, xs[1]? = some z := ⟨_, List.getElem?_eq_getElem (l := xs) (i := 1) (by rw [hxl]; decide)⟩
  rw [x1] at f1
  have l1 := (limW H).agg _ _ _ 1 _ z1.1 Try.underlying26 hl rfl (by rw [List.getElem?_map, x1]; rfl)
  obtain ⟨tn, rfl, hs⟩ := str_of (enc := enc) (w := w) (limW H) f0 l0
  obtain ⟨tc, g1, g2, g3⟩ := cols_of (enc := enc) (w := w) (limW H) f1 l1
  obtain ⟨pp, k, rfl, _⟩ := g1.form
  have hbig := cols_big (enc := enc) (w := w) f1 l1 _ _ _ rfl
  rw [List.length_map] at hbig
  exact ⟨tn, tc, _, rfl, g1, hs, fun c hc => (g3 c hc).1, hbig⟩
variable {r : Reach} {b0 : Nat} {v : Value} {d : DataW H} {q : List MemPlace}
theorem tabs_arg (L : LimOk (LimW H) 140737488355328) (hv : Value.okWide Try.prog w r b0 39 v) (h : DataW.Trod enc Try.prog w 0 (fun _ => true) true 39 v d q) (hl : LimW H 39 d) :
    ∃ (ts : List TbQ) (p : Option Addr) (n k : Nat), v = .slice p n k ∧ TabsH w (.slice p n k) ts ∧ ts.length = n ∧ n ≤ 140737488355328 := by
  obtain ⟨p, n, k, rfl⟩ := okWide_slice Try.underlying39 hv
  obtain ⟨fuel, hf⟩ := h
  rcases els_of (enc := enc) (w := w) L Try.underlying39 (of_decide_eq_true (by kernel_rfl)) (fuel := fuel) (v := .slice p n k) (y := (d, q)) (by simpa [Tr, Value.cells] using hf) hl with e | ⟨a, n', c, e, hc, hM, hi⟩
  · cases e
    exact ⟨[], none, 0, 0, rfl, ⟨⟨none, 0, rfl, Nat.le_refl _, .inl ⟨rfl, rfl, rfl⟩⟩, fun t ht => by cases ht⟩, rfl, Nat.zero_le _⟩
  · cases e
    obtain ⟨l, hll, hp⟩ := list_of (P := fun i (t : TbQ) => (w.cell? (a.add (i * 2)) = some (.string t.1) ∧ w.cell? ⟨(a.add (i * 2)).block, (a.add (i * 2)).off + 1, none⟩ = some t.2.2) ∧ Holds2 w t.2.2 (t.2.1.map colC) ∧ t.1.size ≤ 281474976710656 ∧ (∀ c ∈ t.2.1, c.1.size ≤ 281474976710656) ∧ t.2.1.length * 24 ≤ 140737488355328) (fun i hil => by
      obtain ⟨m, cs, z, ht, hlz, hcell⟩ := hi i hil
      obtain ⟨tn, tc, av, rfl, g1, g2, g3, g4⟩ := tab_of2 (enc := enc) (w := w) ht hlz
      rw [cells_tab] at hcell
      exact ⟨(tn, tc, av), ⟨by simpa using hcell 0 _ rfl, cell_off (by omega) (hcell 1 _ rfl)⟩, g1, Nat.le_trans g2 (by omega), fun c hc => Nat.le_trans (g3 c hc) (by omega), g4⟩)
    refine ⟨l, some a, n, k, rfl, ⟨⟨some a, k, by rw [List.length_map, hll], by rw [List.length_map, hll]; exact hc, .inr ⟨a, rfl, fun i x hx => ?_⟩⟩, fun t ht => ?_⟩, hll, hM⟩
    · rw [List.getElem?_map] at hx
      obtain ⟨t, ht, rfl⟩ := Option.map_eq_some_iff.1 hx
      exact (hp i t ht).1
    · obtain ⟨i, hic⟩ := List.mem_iff_getElem?.1 ht
      exact (hp i t hic).2
theorem kept_arg (_L : LimOk (LimW H) 140737488355328) (hv : Value.okWide Try.prog w r b0 43 v) (h : DataW.Trod enc Try.prog w 0 (fun _ => true) true 43 v d q) (hl : LimW H 43 d) :
    ∃ (rn rt x : ByteArray) (ms : Ml) (z : Int) (pd : Option Addr) (nd kd : Nat) (pm : Option Addr) (nm km : Nat), v = .agg #[.string rn, .string rt, .slice pd nd kd, .slice pm nm km, .int .i64 z, .string x] ∧ Holds2 w (.slice pm nm km) (ms.map meaC) ∧ ms.length = nm ∧ nm ≤ 140737488355328 := by
  obtain ⟨cs0, rfl, hsz⟩ := okWide_struct Try.underlying43 hv
  obtain ⟨fuel, hfu⟩ := h
  obtain ⟨xs, n, _, ex, hlen, hxl, hf⟩ := DataW.trod_struct Try.underlying43 (show DataW.trod enc Try.prog w 0 (fun _ => true) true fuel 43 cs0.toList = some (d, q) by simpa [Value.cells] using hfu)
  rw [cells_kept] at hlen
  obtain ⟨u0, u1, u2, u3, u4, u5, hcs⟩ : ∃ a b c d e f, cs0.toList = [a, b, c, d, e, f] := by
    match hcc : cs0.toList, hlen with
    | [a, b, c, d, e, f], _ => exact ⟨a, b, c, d, e, f, rfl⟩
  rw [hcs] at hf
  have f0 : DataW.trod enc Try.prog w 0 (fun _ => true) true n 30 (([u0, u1, u2, u3, u4, u5].drop 0).take (Try.prog.cellsOf 30)) = xs[0]? := hf 0 _ rfl
  have f1 : DataW.trod enc Try.prog w 0 (fun _ => true) true n 41 (([u0, u1, u2, u3, u4, u5].drop 4).take (Try.prog.cellsOf 41)) = xs[1]? := hf 1 _ rfl
  rw [cells_rol] at f0
  rw [cells_mea] at f1
  obtain ⟨z0, x0⟩ : ∃ z, xs[0]? = some z := ⟨_, List.getElem?_eq_getElem (l := xs) (i := 0) (by rw [hxl]; decide)⟩
  obtain ⟨z1, x1⟩ : ∃ z, xs[1]? = some z := ⟨_, List.getElem?_eq_getElem (l := xs) (i := 1) (by rw [hxl]; decide)⟩
  rw [x0] at f0
  rw [x1] at f1
  have ex' : d = .agg (xs.map (·.1)) := congrArg Prod.fst ex
  rw [ex'] at hl
  have l0 := (limW H).agg _ _ _ 0 _ z0.1 Try.underlying43 hl rfl (by rw [List.getElem?_map, x0]; rfl)
  have l1 := (limW H).agg _ _ _ 1 _ z1.1 Try.underlying43 hl rfl (by rw [List.getElem?_map, x1]; rfl)
  obtain ⟨rn, rt, rd, rm, b, c, e2, j1, j2, j3, j4, ⟨j5, j6⟩, j7, j8⟩ := rol_of (enc := enc) (w := w) (cs := [u0, u1, u2, u3]) (limW H) f0 l0
  obtain ⟨mm, e3, _⟩ := mea_of (enc := enc) (w := w) (cs := [u4, u5]) (limW H) f1 l1
  obtain ⟨pm, km, rfl, hkm⟩ := j2.form
  obtain ⟨pd, kd, rfl, hkd⟩ := j1.form
  rw [List.length_map] at j2 e2
  obtain ⟨z, x⟩ := mm
  simp only [List.cons.injEq, and_true] at e2 e3
  obtain ⟨rfl, rfl, rfl, rfl⟩ := e2
  obtain ⟨rfl, rfl⟩ := e3
  refine ⟨rn, rt, x, rm, z, pd, (strs rd).length, kd, pm, rm.length, km, ?_, j2, rfl, j7⟩
  have : cs0 = ([.string rn, .string rt, .slice pd (strs rd).length kd, .slice pm rm.length km, .int .i64 z, .string x] : List Value).toArray := by rw [← hcs]
  rw [this]
end
end Go.Proofs.Ytjlpmhjnfgmmcaa
