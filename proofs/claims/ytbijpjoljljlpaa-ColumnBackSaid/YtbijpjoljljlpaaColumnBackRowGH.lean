/- The texts OpenStructs ColOpen, one behind the other; each one's own comment says what it holds. -/
import Derived.Test.YtbijpjoljljlpaaGen
import Derived.ProofKit
import Derived.OpenShut
import Derived.ChangeOld
import Derived.Deep.Slices
import Derived.Deep.Fields
import Derived.ChangeSame
import Derived.Lib.SmallJoins
import Derived.Test.YtbijpjoljljlpaaColF
import Derived.Deep.Grids
/- A slice of structs that came in: the cells of each element. Conditions: fields of one cell each. -/
set_option maxRecDepth 100000
namespace Go.Proofs.Ytbijpjoljljlpaa
open Go.ChangeShapes Go.WideShapes Go.ChangeAt Go.RowKit Go.Maps Go.Sort Go.Deep Go.Joins

section
variable {H : Type} {enc : TypeId × Value → H} {P : Program} {w : World} {base : Nat} {spare : Nat → Bool} {held : Bool}
/-- a slice of structs of fields of one cell each: the cells of each element, and how each reads -/
theorem open_structs {t e : TypeId} {fs : Array Field} {fuel : Nat} {cs : List Value} {x : DataW H × List MemPlace} (ht : P.underlying t = some (.slice e)) (he : P.underlying e = some (.struct fs))
    (hone : oneCellFields P fs = true) (hC : P.cellsOf e = fs.size) (h : DataW.trod enc P w base spare held fuel t cs = some x) :
    cs = [.slice none 0 0] ∨
    ∃ (a : Addr) (len cap : Nat), cs = [.slice (some a) len cap] ∧ len ≤ cap ∧ cap ≤ maxLen ∧
      ∀ i, i < len → ∃ n : Nat, ∀ (j : Nat) (f : Field), fs[j]? = some f → ∃ (v : Value) (y : DataW H × List MemPlace), w.cell? (a.add (i * fs.size + j)) = some v ∧ DataW.trod enc P w base spare held n f.type [v] = some y := by
  rcases open_slice ht h with ⟨h0, _⟩ | ⟨a, len, cap, m, n, D, Pl, hcs, _, hl, hmx, hmm, _, hi⟩
  · exact .inl h0
  · refine .inr ⟨a, len, cap, hcs, hl, hmx, fun i hil => ?_⟩
    have him : i < m := by rw [hmm]; split <;> omega
    obtain ⟨cs', hc, ht'⟩ := hi i him
    rw [hC] at hc
    obtain ⟨ys, n', _, _, hlen, hyl, hf⟩ := DataW.trod_struct he ht'
    obtain ⟨_, hcl, hat⟩ := World.cells?_some hc
    refine ⟨n', fun j f hj => ?_⟩
    obtain ⟨ho, hk⟩ := hone_of hone j f hj
    have hjl : j < fs.size := (Array.getElem?_eq_some_iff.1 hj).1
    have hcell := hat j hjl
    have hv : cs'[j]? = some (cs'[j]'(by omega)) := List.getElem?_eq_getElem (by omega)
    have h1 := hf j f hj
    rw [ho, hk] at h1
    have hone' : (cs'.drop j).take 1 = [cs'[j]'(by omega)] := by
      rw [List.drop_eq_getElem_cons (by omega)]
      rfl
    rw [hone'] at h1
    have hys : ys[j]? = some (ys[j]'(by omega)) := List.getElem?_eq_getElem (by omega)
    refine ⟨_, _, ?_, h1.trans hys⟩
    rw [← Go.Deep.add_add, hcell, hv]
end

theorem add_offn (a : Addr) (k j : Nat) (hj : 0 < j) : a.add (k + j) = ⟨(a.add k).block, (a.add k).off + j, none⟩ := by
  unfold Addr.add
  by_cases h1 : k = 0
  · subst h1
    rw [if_neg (by omega), if_pos rfl, Nat.zero_add]
  · rw [if_neg (by omega), if_neg h1]
    simp [Nat.add_assoc]
end Go.Proofs.Ytbijpjoljljlpaa
/- Vectors that came in, opened: what they are in memory. Conditions: none. -/
set_option maxRecDepth 100000
namespace Go.Proofs.Ytbijpjoljljlpaa
open Go.ChangeShapes Go.WideShapes Go.ChangeAt Go.RowKit Go.Maps Go.Sort Go.Deep Go.Joins

theorem own : ownKnob Try.prog.godebug = none := by kernel_rfl
theorem laidOut : laidOutB Try.prog = true := by kernel_rfl
theorem bools_of {H : Type} {enc : TypeId × Value → H} {w : World} {fuel : Nat} {v : Value} {x : DataW H × List MemPlace}
    (h : DataW.trod enc Try.prog w 0 (fun _ => true) true fuel 22 [v] = some x) : ∃ a n k L, v = .slice a n k ∧ Holds w (.slice a n k) (bls L) := by
  rcases open_bools Try.underlying22 Try.underlying4 (by kernel_rfl) h with ⟨hcs, _⟩ | ⟨a, len, cap, B, hcs, _, hl, hm, _, hc⟩
  · simp at hcs
    exact ⟨none, 0, 0, [], hcs, Holds.nil _⟩
  · simp at hcs
    refine ⟨some a, len, cap, (List.range len).map B, hcs, some a, cap, by simp [bls], by simp [bls]; exact hl, .inr ⟨a, rfl, fun j u hj => ?_⟩⟩
    unfold bls at hj
    rw [List.getElem?_map, List.getElem?_map] at hj
    obtain ⟨y, hy, rfl⟩ := Option.map_eq_some_iff.1 hj
    obtain ⟨z, hz, rfl⟩ := Option.map_eq_some_iff.1 hy
    obtain ⟨hlt, e⟩ := List.getElem?_eq_some_iff.1 hz
    simp at hlt e
    subst e
    exact hc j (by omega)
theorem ints_of {H : Type} {enc : TypeId × Value → H} {w : World} {fuel : Nat} {v : Value} {x : DataW H × List MemPlace}
    (h : DataW.trod enc Try.prog w 0 (fun _ => true) true fuel 23 [v] = some x) : ∃ a n k L, v = .slice a n k ∧ Holds w (.slice a n k) (i64s L) := by
  rcases open_ints Try.underlying23 Try.underlying3 (by kernel_rfl) h with ⟨hcs, _⟩ | ⟨a, len, cap, zs, hcs, _, hl, hm, hz, _, hc, _⟩
  · simp at hcs
    exact ⟨none, 0, 0, [], hcs, Holds.nil _⟩
  · simp at hcs
    simp at hz
    refine ⟨some a, len, cap, zs.take len, hcs, some a, cap, by rw [i64s_len, List.length_take, Nat.min_eq_left (by omega)], by rw [i64s_len, List.length_take]; omega, .inr ⟨a, rfl, fun j u hj => ?_⟩⟩
    unfold i64s at hj
    rw [List.getElem?_map] at hj
    obtain ⟨y, hy, rfl⟩ := Option.map_eq_some_iff.1 hj
    rw [List.getElem?_take] at hy
    split at hy
    · have h1 := hc j (by omega)
      rw [List.getD_eq_getElem?_getD, hy] at h1
      exact h1
    · cases hy
/-- a vector that came in -/
theorem vec_of {H : Type} {enc : TypeId × Value → H} {w : World} {v : Value} {d : DataW H} {p : List MemPlace} {r : Reach} {b0 : Nat} (hv : Value.okWide Try.prog w r b0 25 v)
    (h : DataW.Trod enc Try.prog w 0 (fun _ => true) true 25 v d p) : ∃ a1 n1 k1 a2 n2 k2, ∃ c : CV, v = .agg #[.slice a1 n1 k1, .slice a2 n2 k2] ∧ Holds w (.slice a1 n1 k1) (bls c.nl) ∧ Holds w (.slice a2 n2 k2) (i64s c.il) := by
  obtain ⟨v0, v1, y0, y1, n, rfl, _, _, h0, h1⟩ := open_agg2 Try.underlying25 (by kernel_rfl) (by kernel_rfl) hv h
  obtain ⟨a1, n1, k1, L1, rfl, q1⟩ := bools_of h0
  obtain ⟨a2, n2, k2, L2, rfl, q2⟩ := ints_of h1
  exact ⟨a1, n1, k1, a2, n2, k2, ⟨L1, L2⟩, rfl, q1, q2⟩
/-- a slice of vectors that came in -/
theorem vecs_of {H : Type} {enc : TypeId × Value → H} {w : World} {v : Value} {d : DataW H} {p : List MemPlace} {r : Reach} {b0 : Nat} (hv : Value.okWide Try.prog w r b0 40 v)
    (h : DataW.Trod enc Try.prog w 0 (fun _ => true) true 40 v d p) : ∃ a n k, v = .slice a n k ∧ ∃ L, HoldsL w a n L := by
  obtain ⟨a, n, c, rfl⟩ := okWide_slice Try.underlying40 hv
  obtain ⟨fuel, hf⟩ := h
  refine ⟨a, n, c, rfl, ?_⟩
  rcases open_structs (Try.underlying40) (Try.underlying25) (by kernel_rfl) (by kernel_rfl) hf with hcs | ⟨a', len, cap, hcs, hlc, hmx, hi⟩
  · simp [Value.cells] at hcs
    obtain ⟨rfl, rfl, rfl⟩ := hcs
    exact ⟨[], rfl, fun h => absurd h (by omega)⟩
  · simp [Value.cells] at hcs
    obtain ⟨rfl, rfl, rfl⟩ := hcs
    have key : ∀ i, ∃ x : CV, i < n → VecAt w (a'.add (i * 2)) x := fun i => by
      by_cases hil : i < n
      · obtain ⟨n', hf'⟩ := hi i hil
        obtain ⟨v0, y0, c0, t0⟩ := hf' 0 _ rfl
        obtain ⟨v1, y1, c1, t1⟩ := hf' 1 _ rfl
        obtain ⟨a1, n1, k1, L1, rfl, q1⟩ := bools_of t0
        obtain ⟨a2, n2, k2, L2, rfl, q2⟩ := ints_of t1
        refine ⟨⟨L1, L2⟩, fun _ => ⟨a1, n1, k1, a2, n2, k2, c0, ?_, q1, q2⟩⟩
        rw [← add_offn a' (i * 2) 1 (by decide)]; exact c1
      · exact ⟨⟨[], []⟩, fun h => absurd h hil⟩
    obtain ⟨f, hf'⟩ := Classical.skolem.1 key
    refine ⟨(List.range n).map f, by simp, fun _ => ⟨a', rfl, fun i x hx => ?_⟩⟩
    rw [List.getElem?_map] at hx
    obtain ⟨j, hj, rfl⟩ := Option.map_eq_some_iff.1 hx
    obtain ⟨hlt, e⟩ := List.getElem?_eq_some_iff.1 hj
    simp at hlt e
    subst e
    exact hf' i hlt
end Go.Proofs.Ytbijpjoljljlpaa
