/- The walk of ValueBytes. Conditions: none. -/
import Derived.Test.YtbijpjoljljlpaaGreatDoorVbRefLoad
import Derived.Test.YtbijpjoljljlpaaGreatDoorValE
set_option maxRecDepth 100000
namespace Go.Proofs.YtbijpjoljljlpaaGreatDoor
open Go.RowKit Go.Maps Go.Sort Go.Lib Go.ChangeShapes Go.WideShapes Go.ChangeAt Go.Deep Go.Joins

/-- a slice of values that came in -/
theorem vals_of {H : Type} {enc : TypeId × Value → H} {w : World} {v : Value} {d : DataW H} {p : List MemPlace} {r : Reach} {b0 : Nat} (hv : Value.okWide Tryz.prog w r b0 22 v)
    (h : DataW.Trod enc Tryz.prog w 0 (fun _ => true) true 22 v d p) : ∃ a n c, v = .slice a n c ∧ ∃ vs : List VV, vs.length = n ∧ HoldsV w (.slice a n c) vs ∧ ∀ x ∈ vs, x.inI := by
  obtain ⟨a, n, c, rfl⟩ := okWide_slice Tryz.underlying22 hv
  obtain ⟨fuel, hf⟩ := h
  refine ⟨a, n, c, rfl, ?_⟩
  rcases open_structs (Tryz.underlying22) (Tryz.underlying25) (by kernel_rfl) (by kernel_rfl) hf with hcs | ⟨a', len, cap, hcs, hlc, _, hi⟩
  · simp [Value.cells] at hcs
    obtain ⟨rfl, rfl, rfl⟩ := hcs
    exact ⟨[], rfl, holdsV_nil w, fun x hx => absurd hx (by simp)⟩
  · simp [Value.cells] at hcs
    obtain ⟨rfl, rfl, rfl⟩ := hcs
    have key : ∀ i, ∃ x : VV, i < n → (w.cell? (a'.add (i * 3)) = some (.int .i64 x.k) ∧ w.cell? ⟨(a'.add (i * 3)).block, (a'.add (i * 3)).off + 1, none⟩ = some (.int .i64 x.n) ∧ w.cell? ⟨(a'.add (i * 3)).block, (a'.add (i * 3)).off + 2, none⟩ = some (.string x.s)) ∧ x.inI := fun i => by
      by_cases hil : i < n
      · obtain ⟨n', hf'⟩ := hi i hil
        obtain ⟨v0, y0, c0, t0⟩ := hf' 0 _ rfl
        obtain ⟨v1, y1, c1, t1⟩ := hf' 1 _ rfl
        obtain ⟨v2, y2, c2, t2⟩ := hf' 2 _ rfl
        obtain ⟨b0, e0, _, z0⟩ := DataW.trod_int Tryz.underlying3 t0
        obtain ⟨b1, e1, _, z1⟩ := DataW.trod_int Tryz.underlying3 t1
        obtain ⟨b2, e2, _, z2⟩ := DataW.trod_string Tryz.underlying9 t2
        simp only [List.cons.injEq, and_true] at e0 e1 e2
        subst e0 e1 e2
        have x1 := bounds_of_i64 z1
        refine ⟨⟨b0, b1, b2⟩, fun _ => ⟨⟨c0, ?_, ?_⟩, ⟨by show _ ≤ b1; omega, by show b1 < _; omega⟩⟩⟩
        · rw [← add_offn a' (i * 3) 1 (by decide)]; exact c1
        · rw [← add_offn a' (i * 3) 2 (by decide)]; exact c2
      · exact ⟨VV.none_, fun h => absurd h hil⟩
    obtain ⟨f, hf'⟩ := Classical.skolem.1 key
    refine ⟨(List.range n).map f, by simp, ⟨some a', c, by simp, by simpa using hlc, .inr ⟨a', rfl, fun i x hx => ?_⟩⟩, fun x hx => ?_⟩
    · rw [List.getElem?_map] at hx
      obtain ⟨j, hj, rfl⟩ := Option.map_eq_some_iff.1 hx
      obtain ⟨hlt, e⟩ := List.getElem?_eq_some_iff.1 hj
      simp at hlt e
      subst e
      exact (hf' i hlt).1
    · obtain ⟨i, hir, rfl⟩ := List.mem_map.1 hx
      exact (hf' i (List.mem_range.1 hir)).2
theorem neq_val (w : World) (k n : Int) (s : ByteArray) : (binOp .neq 25 (vv k n s) (vv k n s)).run Tryz.prog w = .ok (.bool false) w := by
  have h := eql_val w k n s k n s
  have e : sameV k n s k n s = true := by simp [sameV]
  rw [e, run_eql_struct] at h
  rw [run_neq_struct]
  generalize (Op.equalIn 10000 25 (vv k n s) (vv k n s)).run Tryz.prog w = r at *
  cases r with
  | ok b w' => simp [Result.andThen] at h ⊢; exact h
  | halt x w' => simp [Result.andThen] at h
set_option maxHeartbeats 1600000 in
theorem same_vals {w : World} {v1 v2 : Value} {l : List VV} (h : HoldsV w v1 l) (g : HoldsV w v2 l) (hl : l.length ≤ 1000000) : Calls Tryz.prog 10 #[v1, v2] w fun e w' => e = .returned (.bool true) ∧ Below w.heap.size w w' := by
  obtain ⟨a1, c1, rfl, hc1⟩ := h.form
  obtain ⟨a2, c2, rfl, hc2⟩ := g.form
  have KN := neq_val
  have KU := guard_val
  have H := Lib.hid h
  have G := Lib.hid g
  obtain ⟨n, hn⟩ : ∃ n, n = l.length := ⟨_, rfl⟩
  rw [← hn] at hc1 hc2 hl ⊢
  have HN := Lib.hid hn
  have HL := Lib.hid hl
  clear h g hn hl hc1 hc2
  go_enter Tryz.func10, Tryz.ntmps10
  go_wp2_with fail
  go_loopw [5, 13] (fun _ k wr => ∃ (m q : Nat), k = .int .i64 m ∧ m ≤ n ∧ wr = w.drewN q) (fun _ k _ => n - (RowKit.intOf k).toNat)
  case atStart => exact ⟨0, 0, rfl, Nat.zero_le _, (World.drewN_zero _).symm⟩
  case round =>
    obtain ⟨m, q, rfl, hm, rfl⟩ := hrel
    by_cases hlt : m < n
    · obtain ⟨x, hx⟩ : ∃ x, l[m]? = some x := ⟨l[m]'(HN.out ▸ hlt), List.getElem?_eq_getElem _⟩
      obtain ⟨ad1, rfl, d0, d1, d2⟩ := H.out.at_ hx
      obtain ⟨ad2, rfl, e0, e1, e2⟩ := G.out.at_ hx
      obtain ⟨xk, xn, xs⟩ := x
      simp only at d0 d1 d2 e0 e1 e2
      have hw64 := wi_next hlt (Nat.le_trans HL.out (by decide))
      have b0 : (0 : Int) ≤ (m : Int) := Int.natCast_nonneg m
      have b1 : (m : Int) < (n : Int) := Int.ofNat_lt.2 hlt
      clear hx
      go_wp2_with fail
      go_quiet (fail)
      go_wp2_with fail
      go_roundw
      case rel => exact ⟨m + 1, _, by go_num, hlt, rfl⟩
      case measure => simp [RowKit.intOf]; omega
    · go_wp2_with fail
      go_ret
      exact ⟨rfl, ⟨rfl, rfl, rfl, Nat.le_refl _, fun _ _ => rfl⟩⟩
theorem LoadP.both {w w1 w2 : World} {l : List UInt8} {e1 e2 : Ending} (h1 : LoadP w l e1 w1) (h2 : LoadP w1 l e2 w2) :
    ∃ (v1 v2 : Value) (z : Int) (vs : List VV), e1 = .returned (.tuple #[v1, .int .i64 z]) ∧ e2 = .returned (.tuple #[v2, .int .i64 z]) ∧ HoldsV w1 v1 vs ∧ HoldsV w2 v2 vs ∧ Below w.heap.size w w1 ∧ Below w1.heap.size w1 w2 ∧ (vs = [] ∨ loadV l = some vs) := by
  obtain ⟨⟨v1, h1⟩, b1⟩ := h1
  obtain ⟨⟨v2, h2⟩, b2⟩ := h2
  rcases h1 with ⟨vs, e, hv, rfl⟩ | ⟨e, rfl, rfl⟩
  · rcases h2 with ⟨vs', e', hv', rfl⟩ | ⟨e', _, _⟩
    · rw [e] at e'
      cases e'
      exact ⟨v1, v2, 0, vs, rfl, rfl, hv, hv', b1, b2, .inr e⟩
    · rw [e] at e'; cases e'
  · rcases h2 with ⟨vs', e', _, _⟩ | ⟨e', rfl, rfl⟩
    · rw [e] at e'; cases e'
    · exact ⟨_, _, 8, [], rfl, rfl, holdsV_nil _, holdsV_nil _, b1, b2, .inl rfl⟩
theorem loaded_len {l : List UInt8} {vs : List VV} (h : vs = [] ∨ loadV l = some vs) (hl : l.length ≤ 5000) : vs.length ≤ 1000000 := by
  rcases h with rfl | h
  · simp
  · unfold loadV at h
    split at h
    · simp at h
      have := readV_len l
      rw [h] at this; omega
    · cases h
end Go.Proofs.YtbijpjoljljlpaaGreatDoor
