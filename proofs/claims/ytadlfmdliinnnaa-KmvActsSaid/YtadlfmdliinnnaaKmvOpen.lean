/- Settings that came in, opened: what their seeds are in memory. Conditions: none. -/
import Derived.Test.YtadlfmdliinnnaaKmvGood
import Derived.Test.YtadlfmdliinnnaaKmvNew
import Derived.ProofKit
import Derived.OpenShut
import Derived.ChangeOld
import Derived.Deep.Slices
import Derived.Deep.Fields
import Derived.ChangeSame
import Derived.Lib.SmallJoins
set_option maxRecDepth 100000
namespace Go.Proofs.Ytadlfmdliinnnaa
open Go.ChangeShapes Go.WideShapes Go.ChangeAt Go.RowKit Go.Maps Go.Sort Go.Deep Go.Joins

theorem own : ownKnob Try.prog.godebug = none := by kernel_rfl
theorem laidOut : laidOutB Try.prog = true := by kernel_rfl

section
variable {H : Type} {enc : TypeId × Value → H} {P : Program} {w : World} {base : Nat} {spare : Nat → Bool} {held : Bool}
/-- a slice of structs of fields of one cell each: the cells of each element, and how each reads -/
theorem open_structs {t e : TypeId} {fs : Array Field} {fuel : Nat} {cs : List Value} {x : DataW H × List MemPlace} (ht : P.underlying t = some (.slice e)) (he : P.underlying e = some (.struct fs))
    (hone : oneCellFields P fs = true) (hC : P.cellsOf e = fs.size) (h : DataW.trod enc P w base spare held fuel t cs = some x) :
    cs = [.slice none 0 0] ∨
    ∃ (a : Addr) (len cap : Nat), cs = [.slice (some a) len cap] ∧ len ≤ cap ∧ cap ≤ maxLen ∧
      ∀ i, i < len → ∃ n : Nat, ∀ (j : Nat) (f : Field), fs[j]? = some f → ∃ (v : Value) (y : DataW H × List MemPlace), w.cell? (a.add (i * fs.size + j)) = some v ∧ DataW.trod enc P w base spare held n f.type [v] = some y := by
  rcases open_slice ht h with ⟨h0, _⟩ | ⟨a, len, cap, m, n, D, Pl, hcs, _, hl, hmx, hmm, _, hi⟩
  · exact .inl h0
  · refine .inr ⟨a, len, cap, hcs, hl, hmx, fun i hil => ?_⟩
    have him : i < m := by rw [hmm]; split <;> omega
    obtain ⟨cs', hc, ht'⟩ := hi i him
    rw [hC] at hc
    obtain ⟨ys, n', _, _, hlen, hyl, hf⟩ := DataW.trod_struct he ht'
    obtain ⟨_, hcl, hat⟩ := World.cells?_some hc
    refine ⟨n', fun j f hj => ?_⟩
    obtain ⟨ho, hk⟩ := hone_of hone j f hj
    have hjl : j < fs.size := (Array.getElem?_eq_some_iff.1 hj).1
    have hcell := hat j hjl
    have hv : cs'[j]? = some (cs'[j]'(by omega)) := List.getElem?_eq_getElem (by omega)
    have h1 := hf j f hj
    rw [ho, hk] at h1
    have hone' : (cs'.drop j).take 1 = [cs'[j]'(by omega)] := by
      rw [List.drop_eq_getElem_cons (by omega)]
      rfl
    rw [hone'] at h1
    have hys : ys[j]? = some (ys[j]'(by omega)) := List.getElem?_eq_getElem (by omega)
    refine ⟨_, _, ?_, h1.trans hys⟩
    rw [← Go.Deep.add_add, hcell, hv]
end

/-- pairs out of what is known of each place -/
theorem pairs_of {n : Nat} {R : Nat → Nat → Nat → Prop} (h : ∀ i, i < n → ∃ a b, R i a b) : ∃ S : List (Nat × Nat), S.length = n ∧ ∀ i (hi : i < S.length), R i S[i].1 S[i].2 := by
  induction n with
  | zero => exact ⟨[], rfl, fun i hi => by simp at hi⟩
  | succ n ih =>
    obtain ⟨S, hl, hS⟩ := ih (fun i hi => h i (by omega))
    obtain ⟨a, b, hab⟩ := h n (by omega)
    refine ⟨S ++ [(a, b)], by simp [hl], fun i hi => ?_⟩
    by_cases hin : i < S.length
    · rw [List.getElem_append_left hin]; exact hS i hin
    · have e : i = S.length := by simp at hi; omega
      subst e
      rw [List.getElem_append_right (Nat.le_refl _)]
      simpa [hl] using hab
theorem flat_get (S : List (Nat × Nat)) (j : Nat) (u : Value) (h : (flat S)[j]? = some u) : ∃ i, ∃ hi : i < S.length, (j = i * 2 ∧ u = .int .u64 (S[i].1 : Int)) ∨ (j = i * 2 + 1 ∧ u = .int .u64 (S[i].2 : Int)) := by
  have hj : j < 2 * S.length := by rw [← flat_len]; exact (List.getElem?_eq_some_iff.1 h).1
  have hi : j / 2 < S.length := by omega
  obtain ⟨h1, h2⟩ := flat_at S (j / 2) hi
  refine ⟨j / 2, hi, ?_⟩
  rcases (by omega : j = j / 2 * 2 ∨ j = j / 2 * 2 + 1) with e | e
  · rw [← e, h] at h1
    exact .inl ⟨e, Option.some.inj h1⟩
  · rw [← e, h] at h2
    exact .inr ⟨e, Option.some.inj h2⟩

theorem seeds_of {H : Type} {enc : TypeId × Value → H} {w : World} {fuel : Nat} {v : Value} {x : DataW H × List MemPlace}
    (h : DataW.trod enc Try.prog w 0 (fun _ => true) true fuel 22 [v] = some x) : ∃ sa n sc S, v = .slice sa n sc ∧ SetAt w sa n sc S := by
  rcases open_structs (Try.underlying22) (Try.underlying65) (by kernel_rfl) (by kernel_rfl) h with hcs | ⟨a, len, cap, hcs, hlc, hcm, hi⟩
  · simp at hcs
    exact ⟨none, 0, 0, [], hcs, rfl, ⟨Nat.le_refl _, Nat.zero_le _⟩, fun s hs => by simp at hs, fun h0 => by omega⟩
  · simp at hcs
    have hp : ∀ i, i < len → ∃ A B : Nat, w.cell? (a.add (i * 2)) = some (.int .u64 (A : Int)) ∧ w.cell? (a.add (i * 2 + 1)) = some (.int .u64 (B : Int)) ∧ A < 18446744073709551616 ∧ B < 18446744073709551616 := fun i hil => by
      obtain ⟨n, hf⟩ := hi i hil
      obtain ⟨v0, y0, c0, t0⟩ := hf 0 _ rfl
      obtain ⟨v1, y1, c1, t1⟩ := hf 1 _ rfl
      obtain ⟨b0, e0, _, z0⟩ := DataW.trod_int Try.underlying32 t0
      obtain ⟨b1, e1, _, z1⟩ := DataW.trod_int Try.underlying32 t1
      simp only [List.cons.injEq, and_true] at e0 e1
      subst e0 e1
      have x0 := bounds_of_u64 z0
      have x1 := bounds_of_u64 z1
      refine ⟨b0.toNat, b1.toNat, ?_, ?_, by omega, by omega⟩
      · rw [Int.toNat_of_nonneg x0.1]; exact c0
      · rw [Int.toNat_of_nonneg x1.1]; exact c1
    obtain ⟨S, hl, hS⟩ := pairs_of hp
    refine ⟨some a, len, cap, S, hcs, hl, ⟨hlc, hcm⟩, fun s hs => ?_, fun _ => ⟨a, rfl, fun j u hj => ?_⟩⟩
    · obtain ⟨i, hi', rfl⟩ := List.getElem_of_mem hs
      exact ⟨(hS i hi').2.2.1, (hS i hi').2.2.2⟩
    · obtain ⟨i, hi', ⟨rfl, rfl⟩ | ⟨rfl, rfl⟩⟩ := flat_get S j u hj
      · exact (hS i hi').1
      · exact (hS i hi').2.1

/-- settings that came in -/
theorem settings_of {H : Type} {enc : TypeId × Value → H} {w : World} {v : Value} {d : DataW H} {p : List MemPlace} {r : Reach} {b0 : Nat} (hv : Value.okWide Try.prog w r b0 24 v)
    (h : DataW.Trod enc Try.prog w 0 (fun _ => true) true 24 v d p) : ∃ t sa n sc k m S, v = setV t sa n sc k m ∧ SetAt w sa n sc S := by
  obtain ⟨v0, v1, v2, v3, y0, y1, y2, y3, n, rfl, _, _, h0, h1, h2, h3⟩ := open_agg4 Try.underlying24 (by kernel_rfl) (by kernel_rfl) hv h
  obtain ⟨x0, e0, _, _⟩ := DataW.trod_int Try.underlying3 h0
  obtain ⟨x2, e2, _, _⟩ := DataW.trod_int Try.underlying3 h2
  obtain ⟨x3, e3, _, _⟩ := DataW.trod_int Try.underlying3 h3
  obtain ⟨sa, len, sc, S, rfl, hS⟩ := seeds_of h1
  simp only [List.cons.injEq, and_true] at e0 e2 e3
  subst e0 e2 e3
  exact ⟨x0, sa, len, sc, x2, x3, S, rfl, hS⟩
end Go.Proofs.Ytadlfmdliinnnaa
