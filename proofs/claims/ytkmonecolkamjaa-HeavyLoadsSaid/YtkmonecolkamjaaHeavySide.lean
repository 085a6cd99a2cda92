/- The calls of a sketch of package heavy where several things stand side by side; the document's example. Conditions: none. -/
import Derived.Test.YtkmonecolkamjaaHeavyMerge
import Derived.Laws.StructEq
set_option maxRecDepth 100000
namespace Go.Proofs.Ytkmonecolkamjaa
open Go.RowKit Go.Maps Go.Sort Go.Shelf

/-- lists that have the same counters, in one order, are one -/
theorem ordered_eq : ∀ {R R' : CL}, R.Perm R' → (R.Pairwise fun x y => ltTop y x = false) → (R'.Pairwise fun x y => ltTop y x = false) → R = R'
  | [], R', h, _, _ => h.nil_eq
  | x :: r, [], h, _, _ => absurd h.length_eq (by simp)
  | x :: r, y :: s, h, h1, h2 => by
    have a1 := List.pairwise_cons.1 h1
    have a2 := List.pairwise_cons.1 h2
    have e : x = y := by
      rcases List.mem_cons.1 (h.mem_iff.1 (List.mem_cons_self ..)) with e | e
      · exact e
      · rcases List.mem_cons.1 (h.mem_iff.2 (List.mem_cons_self (a := y) (l := s))) with e' | e'
        · exact e'.symm
        · have b1 := a1.1 y e'
          have b2 := a2.1 x e
          rw [ltTop_no] at b1 b2
          exact Prod.ext (by omega) (by omega)
    subst e
    rw [ordered_eq ((List.perm_cons x).1 h) a1.2 a2.2]
theorem ranked_eq {L R R' : CL} (h : Ranked L R) (h' : Ranked L R') : R = R' := ordered_eq (h.perm.trans h'.perm.symm) h.order h'.order

/-- what a merge has left -/
def Mg (p : Nat) (V U : HV) : Thing := fun T i w => ∃ V', MergeP V U V' ∧ Hk p V' T i w
theorem Mg.framed (p : Nat) (V U : HV) : Framed (Mg p V U) := by
  rintro T T' i w w' ⟨V', hm, h⟩ hT hw
  exact ⟨V', hm, Hk.framed p V' T T' i w w' h hT hw⟩

section
variable {w0 w : World} {E : List (Nat × Thing)} {i j : Nat} {p q : Nat} {V U : HV}
theorem side_thing (h : Side w0 E w) {A : Thing} (hx : (i, A) ∈ E) : ∃ T, A T i w := by
  obtain ⟨T, h⟩ := h
  exact ⟨T, (h.at_ _ hx).2⟩
theorem side_new (h : Side w0 E w) (i : Nat) {m : Nat} (h1 : 1 ≤ m) (h2 : m ≤ 64) :
    Calls Try.prog 9 #[.int .i64 m] w fun e w' => ∃ p, e = .returned (.pointer (some ⟨p, 0, none⟩)) ∧ Hid (Side w0 ((i, Hk p (HV.none_ m)) :: E) w') :=
  h.make i (fun p => Hk p (HV.none_ m)) (fun p => Hk.framed p _) (R := fun p e => e = .returned (.pointer (some ⟨p, 0, none⟩))) fun T _ => new_yes h1 h2 T i
theorem side_ins (h : Side w0 ((i, Hk p V) :: E) w) (hi : ∀ e ∈ E, e.1 ≠ i) {x : Int} (hx : InI x) :
    Calls Try.prog 12 #[.pointer (some ⟨p, 0, none⟩), .int .i64 x] w fun e w' => e = .returned (.tuple #[]) ∧ Hid (Side w0 ((i, Hk p (V.ins x)) :: E) w') :=
  (h.step hi (Hk.framed p (V.ins x)) (Pr := fun e => e = .returned (.tuple #[])) fun _ _ hA => (ins_any (hA _ (List.mem_cons_self ..)) hx).mono fun _ _ ⟨a, b⟩ => ⟨a, b.out⟩).mono fun _ _ ⟨a, b⟩ => ⟨a, b⟩
theorem side_merge (h : Side w0 ((i, Hk p V) :: E) w) (hi : ∀ e ∈ E, e.1 ≠ i) (hx : (j, Hk q U) ∈ E) (hm : U.m = V.m) (hn : V.n + U.n ≤ 1125899906842624) :
    Calls Try.prog 14 #[.pointer (some ⟨p, 0, none⟩), .pointer (some ⟨q, 0, none⟩)] w fun e w' => e = .returned (.int .i64 0) ∧ Hid (Side w0 ((i, Mg p V U) :: E) w') :=
  (h.step hi (Mg.framed p V U) (Pr := fun e => e = .returned (.int .i64 0)) fun _ _ hA => (merge_two (hA _ (List.mem_cons_self ..)) (hA _ (List.mem_cons_of_mem _ hx)) (fun e => hi _ hx e.symm) hm hn).mono fun _ _ ⟨a, b⟩ => ⟨a, by
    obtain ⟨V', hM, T', n1, e1, h1⟩ := b.out
    exact ⟨T', n1, e1, V', hM, h1⟩⟩).mono fun _ _ ⟨a, b⟩ => ⟨a, b⟩
theorem side_merged (h : Side w0 ((i, Mg p V U) :: E) w) : ∃ V', MergeP V U V' ∧ Side w0 ((i, Hk p V') :: E) w := by
  obtain ⟨T, h⟩ := h
  obtain ⟨V', hM, h1⟩ := (h.at_ _ (List.mem_cons_self ..)).2
  refine ⟨V', hM, T, h.base, h.old, fun e he => ?_⟩
  rcases List.mem_cons.1 he with rfl | he
  · exact ⟨Hk.framed p V', h1⟩
  · exact h.at_ e (List.mem_cons_of_mem _ he)
theorem side_counters (h : Side w0 E w) (hx : (i, Hk p V) ∈ E) : Calls Try.prog 22 #[.pointer (some ⟨p, 0, none⟩)] w (CtrAt w V.L) := by
  obtain ⟨T, b, hA, hG⟩ := side_thing h hx
  obtain ⟨c0, _, c2, _⟩ := hA.cells
  exact counters_at c0 hG.m1 c2 hA.map (by have := hG.len; have := hG.m64; omega)
theorem side_top (h : Side w0 E w) (hx : (i, Hk p V) ∈ E) (n : Nat) (hn : n ≤ 1000000) : Calls Try.prog 23 #[.pointer (some ⟨p, 0, none⟩), .int .i64 n] w (TopAt w V.L n) := by
  obtain ⟨T, b, hA, hG⟩ := side_thing h hx
  obtain ⟨c0, _, c2, _⟩ := hA.cells
  exact top_at c0 hG.m1 c2 hA.map (by have := hG.len; have := hG.m64; omega) n hn
theorem side_total (h : Side w0 E w) (hx : (i, Hk p V) ∈ E) : Calls Try.prog 21 #[.pointer (some ⟨p, 0, none⟩)] w fun e w' => e = .returned (.int .i64 V.n) ∧ w = w' := by
  obtain ⟨T, b, hA, hG⟩ := side_thing h hx
  obtain ⟨c0, c1, _, _⟩ := hA.cells
  exact total_at c0 hG.m1 c1
theorem side_merge_arg (h : Side w0 E w) (hx : (i, Hk p V) ∈ E) : (∃ T, Hk p V T i w) := side_thing h hx
theorem side_good (h : Side w0 E w) (hx : (i, Hk p V) ∈ E) : V.Good ∧ Asc V.L ∧ ∀ x ∈ V.L, InI x.1 := by
  obtain ⟨T, b, hA, hG⟩ := side_thing h hx
  exact ⟨hG, hA.map.asc, fun x hx => (hA.map.inI x hx).1⟩
end

/-- a row of counters that nobody changes -/
def RowTh (g : Nat) (R : CL) : Thing := fun T _ w => T g = none ∧ RowP w g R
theorem RowTh.framed (g : Nat) (R : CL) : Framed (RowTh g R) := fun T T' i w w' h hT hw => by
  have hb := hw g h.2.2 (.inl h.1)
  refine ⟨(hT g h.2.2).trans h.1, fun j hj => by rw [World.cell?_of_block (w := w) hb, World.frozen?_of_block (w := w) hb]; exact h.2.1 j hj, ?_⟩
  have hs : w.heap[g]? = some (w.heap[g]'h.2.2) := Array.getElem?_eq_getElem h.2.2
  rw [← hb] at hs
  exact (Array.getElem?_eq_some_iff.1 hs).1
theorem side_row {w0 w w' : World} {E : List (Nat × Thing)} (h : Side w0 E w) (hb : Below w.heap.size w w') (k : Nat) {g : Nat} {R : CL} (hR : RowP w' g R) (hg : w.heap.size ≤ g) : Side w0 ((k, RowTh g R) :: E) w' := by
  obtain ⟨T, h⟩ := h
  exact Side.add h (T.one_next w none) hb (RowTh.framed g R) ⟨by unfold Tags.one; rw [if_neg (by omega)], hR⟩
theorem side_rowP {w0 w : World} {E : List (Nat × Thing)} (h : Side w0 E w) {k g : Nat} {R : CL} (hx : (k, RowTh g R) ∈ E) : RowP w g R := by
  obtain ⟨T, h⟩ := h
  exact (h.at_ _ hx).2.2

theorem eql_ctr (w : World) (a b : Int) : (binOp .eql 50 (.agg #[.int .i64 a, .int .i64 b]) (.agg #[.int .i64 a, .int .i64 b])).run Try.prog w = .ok (.bool true) w := by
  have u3 := Try.underlying3
  have hS : Try.prog.underlying 50 = some (.struct (Try.prog.fieldsOf 50)) := by kernel_rfl
  have hp : Try.prog.stoodInHeld 50 = false := by kernel_rfl
  rw [run_eql_struct, show (10000 : Nat) = 9999 + 1 from rfl, run_equalIn_agg w 9999 50 _ _ hS hp]
  simp only [Program.fieldsOf, Try.underlying50]
  go_simp
theorem guard_ctr (w : World) (o : BinOp) (x y : Operand) (a b a' b' : Int) : (eqGuard o 50 x y (.agg #[.int .i64 a, .int .i64 b]) (.agg #[.int .i64 a', .int .i64 b'])).run Try.prog w = .ok () w :=
  run_eqGuard_agg w o _ x y _ _ (by kernel_rfl)

/-- the example's sketches -/
def E1 (k : Nat) : HV := if k = 0 then HV.none_ 2 else if k = 1 then (HV.none_ 2).ins 1 else if k = 2 then ((HV.none_ 2).ins 1).ins 1 else if k = 3 then (((HV.none_ 2).ins 1).ins 1).ins 2 else ((((HV.none_ 2).ins 1).ins 1).ins 2).ins 3
theorem E1_4 : E1 4 = ⟨2, 4, [(1, 1)]⟩ := by rfl
theorem E1_3 : E1 3 = ⟨2, 3, [(1, 2), (2, 1)]⟩ := by rfl
theorem E2_1 : (HV.none_ 2).ins 3 = ⟨2, 1, [(3, 1)]⟩ := by rfl
theorem ranked_one : ∀ R, Ranked [(1, 1)] R → R = [(1, 1)] := fun R h => by
  refine ranked_eq h ⟨List.Perm.refl _, by simp⟩
theorem ranked_three : ∀ R, Ranked [(1, 2), (2, 1), (3, 1)] R → R = [(1, 2), (2, 1), (3, 1)] := fun R h => by
  refine ranked_eq h ⟨List.Perm.refl _, by simp [ltTop]⟩
theorem E_merge {V' : HV} (h : MergeP (E1 3) ((HV.none_ 2).ins 3) V') : V' = ⟨2, 4, [(1, 1)]⟩ := by
  obtain ⟨h1, h2, h3⟩ := h
  rw [E1_3, E2_1] at *
  have ea : addL [(1, 2), (2, 1)] [(3, 1)] = [(1, 2), (2, 1), (3, 1)] := by rfl
  simp only [ea] at h3
  rcases h3 with ⟨a, b⟩ | ⟨_, R, q, a, b, c⟩
  · simp at a
  · rw [ranked_three R a] at b
    simp at b
    subst b
    have : less (1 : Int) [(1, 2), (2, 1), (3, 1)] = [(1, 1)] := by rfl
    simp only [this] at c
    cases V'
    simp only at h1 h2 c
    rw [h1, h2, c]
end Go.Proofs.Ytkmonecolkamjaa
