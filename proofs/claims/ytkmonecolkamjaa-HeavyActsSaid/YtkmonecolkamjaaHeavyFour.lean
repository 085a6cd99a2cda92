/- Two sketches and the document's two, side by side, with a box: what each call does to them. Conditions: none. -/
import Derived.Test.YtkmonecolkamjaaHeavyAlike
import Derived.Test.YtkmonecolkamjaaHeavyLives
import Derived.Test.YtkmonecolkamjaaOpenStructs
set_option maxRecDepth 100000
namespace Go.Proofs.Ytkmonecolkamjaa
open Go.RowKit Go.Maps Go.Sort

/-- what a merge of the reference has left -/
def RMg (p : Nat) (V U : HV) : Thing := fun T i w => ∃ V', MergeP V U V' ∧ RK p V' T i w
theorem RMg.framed (p : Nat) (V U : HV) : Framed (RMg p V U) := by
  rintro T T' i w w' ⟨V', hm, h⟩ hT hw
  exact ⟨V', hm, RK.framed p V' T T' i w w' h hT hw⟩
section
variable {w0 w : World} {E : List (Nat × Thing)} {i j : Nat} {p q : Nat} {V U : HV}
theorem side_rmerged (h : Side w0 ((i, RMg p V U) :: E) w) : ∃ V', MergeP V U V' ∧ Side w0 ((i, RK p V') :: E) w := by
  obtain ⟨T, h⟩ := h
  obtain ⟨V', hM, h1⟩ := (h.at_ _ (List.mem_cons_self ..)).2
  refine ⟨V', hM, T, h.base, h.old, fun e he => ?_⟩
  rcases List.mem_cons.1 he with rfl | he
  · exact ⟨RK.framed p V', h1⟩
  · exact h.at_ e (List.mem_cons_of_mem _ he)
theorem side_rmerge (h : Side w0 ((i, RK p V) :: E) w) (hi : ∀ e ∈ E, e.1 ≠ i) (hx : (j, RK q U) ∈ E) (hm : U.m = V.m) (hn : V.n + U.n ≤ 1125899906842624) :
    Calls Try.prog 15 #[.pointer (some ⟨p, 0, none⟩), .pointer (some ⟨q, 0, none⟩)] w fun e w' => e = .returned (.int .i64 0) ∧ Side w0 ((i, RMg p V U) :: E) w' :=
  h.step hi (RMg.framed p V U) (Pr := fun e => e = .returned (.int .i64 0)) fun _ _ hA => (rmerge_two (hA _ (List.mem_cons_self ..)) (hA _ (List.mem_cons_of_mem _ hx)) (fun e => hi _ hx e.symm) hm hn).mono fun _ _ ⟨a, b⟩ => ⟨a, by
    obtain ⟨V', hM, T', n1, e1, h1⟩ := b.out
    exact ⟨T', n1, e1, V', hM, h1⟩⟩
theorem side_self (h : Side w0 ((i, Hk p V) :: E) w) (hi : ∀ e ∈ E, e.1 ≠ i) (hn : V.n + V.n ≤ 1125899906842624) :
    Calls Try.prog 14 #[.pointer (some ⟨p, 0, none⟩), .pointer (some ⟨p, 0, none⟩)] w fun e w' => e = .returned (.int .i64 0) ∧ Side w0 ((i, Mg p V V) :: E) w' :=
  h.step hi (Mg.framed p V V) (Pr := fun e => e = .returned (.int .i64 0)) fun _ _ hA => (merge_self (hA _ (List.mem_cons_self ..)) hn).mono fun _ _ ⟨a, b⟩ => ⟨a, by
    obtain ⟨V', hM, T', n1, e1, h1⟩ := b.out
    exact ⟨T', n1, e1, V', hM, h1⟩⟩
theorem side_two (h : Side w0 E w) {A B : Thing} (hx : (i, A) ∈ E) (hy : (j, B) ∈ E) : ∃ T, A T i w ∧ B T j w := by
  obtain ⟨T, h⟩ := h
  exact ⟨T, (h.at_ _ hx).2, (h.at_ _ hy).2⟩
end

/-- the four, and a box -/
def Four (w : World) (b : Nat) (ob : Obj) (p q r o : Nat) (V U V' U' : HV) (W : World) : Prop :=
  ∃ i j a d, [0, i, j, a, d].Nodup ∧ Side w [(i, Hk p V), (j, Hk q U), (a, RK r V'), (d, RK o U'), (0, Box b ob)] W
section
variable {w W W' : World} {b p q r o x : Nat} {ob : Obj} {V U V' U' V1 : HV} {y : Int} {E E' : List (Nat × Thing)}
theorem five_ne {i j a d : Nat} (h : [0, i, j, a, d].Nodup) : (0 ≠ i ∧ 0 ≠ j ∧ 0 ≠ a ∧ 0 ≠ d) ∧ (i ≠ j ∧ i ≠ a ∧ i ≠ d) ∧ (j ≠ a ∧ j ≠ d) ∧ a ≠ d := by
  simp at h
  obtain ⟨⟨h1, h2, h3, h4⟩, ⟨h5, h6, h7⟩, ⟨h8, h9⟩, h10⟩ := h
  exact ⟨⟨fun e => h1 e, fun e => h2 e, fun e => h3 e, fun e => h4 e⟩, ⟨h5, h6, h7⟩, ⟨h8, h9⟩, h10⟩
theorem Four.below (h : Four w b ob p q r o V U V' U' W) (hb : Below W.heap.size W W') : Four w b ob p q r o V U V' U' W' := by
  obtain ⟨i, j, a, d, hn, h⟩ := h
  exact ⟨i, j, a, d, hn, h.below hb⟩
theorem Four.base (h : Four w b ob p q r o V U V' U' W) : Below w.heap.size w W := by
  obtain ⟨i, j, a, d, hn, h⟩ := h
  exact h.base
theorem Four.heap (h : Four w b ob p q r o V U V' U' W) : W.heap[b]? = some ob := by
  obtain ⟨i, j, a, d, hn, h⟩ := h
  exact h.heap (i := 0) (by simp)
theorem Four.swap (h : Four w b ob p q r o V U V' U' W) : Four w b ob q p o r U V U' V' W := by
  obtain ⟨i, j, a, d, hn, h⟩ := h
  refine ⟨j, i, d, a, ?_, h.sub (fun x hx => ?_)⟩
  · have := five_ne hn
    simp; omega
  · simp at hx ⊢
    rcases hx with rfl | rfl | rfl | rfl | rfl <;> simp
theorem Four.box (h : Four w b ob p q r o V U V' U' W) (ob' : Obj) : Four w W.heap.size ob' p q r o V U V' U' (W.alloc ob') := by
  obtain ⟨i, j, a, d, hn, h⟩ := h
  refine ⟨i, j, a, d, hn, (h.alloc 0 ob').sub (fun x hx => ?_)⟩
  simp at hx ⊢
  rcases hx with rfl | rfl | rfl | rfl | rfl <;> simp
theorem Four.good (h : Four w b ob p q r o V U V' U' W) : V.Good ∧ U.Good := by
  obtain ⟨i, j, a, d, hn, h⟩ := h
  exact ⟨(side_good h (.head _)).1, (side_good h (.tail _ (.head _))).1⟩
theorem f_ins (h : Four w b ob p q r o V U V' U' W) (hy : InI y) :
    Calls Try.prog 12 #[.pointer (some ⟨p, 0, none⟩), .int .i64 y] W fun e w' => e = .returned (.tuple #[]) ∧ Four w b ob p q r o (V.ins y) U V' U' w' := by
  obtain ⟨i, j, a, d, hn, h⟩ := h
  have hh := five_ne hn
  exact (side_ins h (fun e he => by simp at he; rcases he with rfl | rfl | rfl | rfl <;> simp <;> omega) hy).mono fun _ _ ⟨h1, h2⟩ => ⟨h1, i, j, a, d, hn, h2.out⟩
theorem f_rins (h : Four w b ob p q r o V U V' U' W) (hy : InI y) :
    Calls Try.prog 13 #[.pointer (some ⟨r, 0, none⟩), .int .i64 y] W fun e w' => e = .returned (.tuple #[]) ∧ Four w b ob p q r o V U (V'.ins y) U' w' := by
  obtain ⟨i, j, a, d, hn, h⟩ := h
  have hh := five_ne hn
  have h1 := h.sub (E' := [(a, RK r V'), (i, Hk p V), (j, Hk q U), (d, RK o U'), (0, Box b ob)]) (fun x hx => by simp at hx ⊢; rcases hx with rfl | rfl | rfl | rfl | rfl <;> simp)
  refine (h1.step (fun e he => by simp at he; rcases he with rfl | rfl | rfl | rfl <;> simp <;> omega) (RK.framed r (V'.ins y)) (Pr := fun e => e = .returned (.tuple #[])) fun _ _ hA => (rins_any (hA _ (List.mem_cons_self ..)) hy)).mono fun _ _ ⟨g1, g2⟩ => ⟨g1, i, j, a, d, hn, g2.sub (fun x hx => ?_)⟩
  simp at hx ⊢; rcases hx with rfl | rfl | rfl | rfl | rfl <;> simp
theorem f_merge (h : Four w b ob p q r o V U V' U' W) (hm : U.m = V.m) (hn : V.n + U.n ≤ 1125899906842624) :
    Calls Try.prog 14 #[.pointer (some ⟨p, 0, none⟩), .pointer (some ⟨q, 0, none⟩)] W fun e w' => e = .returned (.int .i64 0) ∧ ∃ V1, MergeP V U V1 ∧ Four w b ob p q r o V1 U V' U' w' := by
  obtain ⟨i, j, a, d, hd, h⟩ := h
  have hh := five_ne hd
  refine (side_merge h (fun e he => by simp at he; rcases he with rfl | rfl | rfl | rfl <;> simp <;> omega) (j := j) (.head _) hm hn).mono fun _ _ ⟨h1, h2⟩ => ⟨h1, ?_⟩
  obtain ⟨V1, hM, h3⟩ := side_merged h2.out
  exact ⟨V1, hM, i, j, a, d, hd, h3⟩
theorem f_merge_full (h : Four w b ob p q r o V U V' U' W) (hm : U.m = V.m) (hn : 1125899906842624 < V.n + U.n) :
    Calls Try.prog 14 #[.pointer (some ⟨p, 0, none⟩), .pointer (some ⟨q, 0, none⟩)] W fun e w' => e = .returned (.int .i64 7) ∧ Four w b ob p q r o V U V' U' w' := by
  obtain ⟨i, j, a, d, hd, h⟩ := h
  obtain ⟨T, h1, h2⟩ := side_two h (.head _) (.tail _ (.head _))
  exact (merge_full h1 h2 hm hn).mono fun _ _ ⟨g1, g2⟩ => ⟨g1, i, j, a, d, hd, h.below g2⟩
theorem f_self (h : Four w b ob p q r o V U V' U' W) (hn : V.n + V.n ≤ 1125899906842624) :
    Calls Try.prog 14 #[.pointer (some ⟨p, 0, none⟩), .pointer (some ⟨p, 0, none⟩)] W fun e w' => e = .returned (.int .i64 0) ∧ ∃ V1, MergeP V V V1 ∧ Four w b ob p q r o V1 U V' U' w' := by
  obtain ⟨i, j, a, d, hd, h⟩ := h
  have hh := five_ne hd
  refine (side_self h (fun e he => by simp at he; rcases he with rfl | rfl | rfl | rfl <;> simp <;> omega) hn).mono fun _ _ ⟨h1, h2⟩ => ⟨h1, ?_⟩
  obtain ⟨V1, hM, h3⟩ := side_merged h2
  exact ⟨V1, hM, i, j, a, d, hd, h3⟩
theorem f_self_full (h : Four w b ob p q r o V U V' U' W) (hn : 1125899906842624 < V.n + V.n) :
    Calls Try.prog 14 #[.pointer (some ⟨p, 0, none⟩), .pointer (some ⟨p, 0, none⟩)] W fun e w' => e = .returned (.int .i64 7) ∧ Four w b ob p q r o V U V' U' w' := by
  obtain ⟨i, j, a, d, hd, h⟩ := h
  obtain ⟨T, h1, _⟩ := side_two h (.head _) (.head _)
  exact (merge_full h1 h1 rfl hn).mono fun _ _ ⟨g1, g2⟩ => ⟨g1, i, j, a, d, hd, h.below g2⟩
theorem f_rmerge (h : Four w b ob p q r o V U V' U' W) (hm : U'.m = V'.m) (hn : V'.n + U'.n ≤ 1125899906842624) :
    Calls Try.prog 15 #[.pointer (some ⟨r, 0, none⟩), .pointer (some ⟨o, 0, none⟩)] W fun e w' => e = .returned (.int .i64 0) ∧ ∃ V1, MergeP V' U' V1 ∧ Four w b ob p q r o V U V1 U' w' := by
  obtain ⟨i, j, a, d, hd, h⟩ := h
  have hh := five_ne hd
  have h1 := h.sub (E' := [(a, RK r V'), (i, Hk p V), (j, Hk q U), (d, RK o U'), (0, Box b ob)]) (fun x hx => by simp at hx ⊢; rcases hx with rfl | rfl | rfl | rfl | rfl <;> simp)
  refine (side_rmerge h1 (fun e he => by simp at he; rcases he with rfl | rfl | rfl | rfl <;> simp <;> omega) (j := d) (by simp) hm hn).mono fun _ _ ⟨g1, g2⟩ => ⟨g1, ?_⟩
  obtain ⟨V1, hM, h3⟩ := side_rmerged g2
  refine ⟨V1, hM, i, j, a, d, hd, h3.sub (fun x hx => ?_)⟩
  simp at hx ⊢; rcases hx with rfl | rfl | rfl | rfl | rfl <;> simp
theorem f_rmerge_full (h : Four w b ob p q r o V U V' U' W) (hm : U'.m = V'.m) (hn : 1125899906842624 < V'.n + U'.n) :
    Calls Try.prog 15 #[.pointer (some ⟨r, 0, none⟩), .pointer (some ⟨o, 0, none⟩)] W fun e w' => e = .returned (.int .i64 7) ∧ Four w b ob p q r o V U V' U' w' := by
  obtain ⟨i, j, a, d, hd, h⟩ := h
  obtain ⟨T, h1, h2⟩ := side_two h (A := RK r V') (B := RK o U') (i := a) (j := d) (by simp) (by simp)
  exact (rmerge_full h1 h2 hm hn).mono fun _ _ ⟨g1, g2⟩ => ⟨g1, i, j, a, d, hd, h.below g2⟩

/-- with a copy beside -/
def FourC (w : World) (b : Nat) (ob : Obj) (p q r o _x : Nat) (V U V' U' : HV) (A : Thing) (W : World) : Prop :=
  ∃ i j a d c, [0, i, j, a, d].Nodup ∧ (c ≠ 0 ∧ c ≠ i ∧ c ≠ j ∧ c ≠ a ∧ c ≠ d) ∧ Side w [(c, A), (i, Hk p V), (j, Hk q U), (a, RK r V'), (d, RK o U'), (0, Box b ob)] W
theorem FourC.heap {A : Thing} (h : FourC w b ob p q r o x V U V' U' A W) : W.heap[b]? = some ob := by
  obtain ⟨i, j, a, d, c, _, _, h⟩ := h
  exact h.heap (i := 0) (by simp)
theorem f_rcopy (h : Four w b ob p q r o V U V' U' W) :
    Calls Try.prog 16 #[.pointer (some ⟨r, 0, none⟩)] W fun e w' => ∃ x, e = .returned (.pointer (some ⟨x, 0, none⟩)) ∧ FourC w b ob p q r o x V U V' U' (RK x V') w' := by
  obtain ⟨i, j, a, d, hn, h⟩ := h
  have hh := five_ne hn
  refine (h.make (i + j + a + d + 1) (fun q => RK q V') (fun q => RK.framed q _) (R := fun q e => e = .returned (.pointer (some ⟨q, 0, none⟩))) fun _ hE => rcopy_any (hE (a, RK r V') (by simp))).mono ?_
  rintro e w' ⟨x, he, hs⟩
  exact ⟨x, he, i, j, a, d, _, hn, ⟨by omega, by omega, by omega, by omega, by omega⟩, hs.out⟩
theorem f_copy (h : Four w b ob p q r o V U V' U' W) :
    Calls Try.prog 17 #[.pointer (some ⟨p, 0, none⟩)] W fun e w' => ∃ x, e = .returned (.pointer (some ⟨x, 0, none⟩)) ∧ FourC w b ob p q r o x V U V' U' (Hk x V) w' := by
  obtain ⟨i, j, a, d, hn, h⟩ := h
  have hh := five_ne hn
  refine (h.make (i + j + a + d + 1) (fun q => Hk q V) (fun q => Hk.framed q _) (R := fun q e => e = .returned (.pointer (some ⟨q, 0, none⟩))) fun _ hE => copy_any (hE (i, Hk p V) (by simp))).mono ?_
  rintro e w' ⟨x, he, hs⟩
  exact ⟨x, he, i, j, a, d, _, hn, ⟨by omega, by omega, by omega, by omega, by omega⟩, hs.out⟩
theorem f_rmerge_copy (h : FourC w b ob p q r o x V U V' U' (RK x V') W) (hn : V'.n + V'.n ≤ 1125899906842624) :
    Calls Try.prog 15 #[.pointer (some ⟨r, 0, none⟩), .pointer (some ⟨x, 0, none⟩)] W fun e w' => e = .returned (.int .i64 0) ∧ ∃ V1, MergeP V' V' V1 ∧ Four w b ob p q r o V U V1 U' w' := by
  obtain ⟨i, j, a, d, c, hd, hc, h⟩ := h
  have hh := five_ne hd
  have h1 := h.sub (E' := [(a, RK r V'), (c, RK x V'), (i, Hk p V), (j, Hk q U), (d, RK o U'), (0, Box b ob)]) (fun x hx => by simp at hx ⊢; rcases hx with rfl | rfl | rfl | rfl | rfl | rfl <;> simp)
  refine (side_rmerge h1 (fun e he => by simp at he; rcases he with rfl | rfl | rfl | rfl | rfl <;> simp <;> omega) (j := c) (by simp) rfl hn).mono fun _ _ ⟨g1, g2⟩ => ⟨g1, ?_⟩
  obtain ⟨V1, hM, h3⟩ := side_rmerged g2
  refine ⟨V1, hM, i, j, a, d, hd, h3.sub (fun x hx => ?_)⟩
  simp at hx ⊢; rcases hx with rfl | rfl | rfl | rfl | rfl <;> simp
theorem f_rmerge_copy_full (h : FourC w b ob p q r o x V U V' U' (RK x V') W) (hn : 1125899906842624 < V'.n + V'.n) :
    Calls Try.prog 15 #[.pointer (some ⟨r, 0, none⟩), .pointer (some ⟨x, 0, none⟩)] W fun e w' => e = .returned (.int .i64 7) ∧ Four w b ob p q r o V U V' U' w' := by
  obtain ⟨i, j, a, d, c, hd, hc, h⟩ := h
  obtain ⟨T, h1, h2⟩ := side_two h (A := RK r V') (B := RK x V') (i := a) (j := c) (by simp) (by simp)
  exact (rmerge_full h1 h2 rfl hn).mono fun _ _ ⟨g1, g2⟩ => ⟨g1, i, j, a, d, hd, (h.below g2).sub fun x hx => List.mem_cons_of_mem _ hx⟩
theorem f_ins_old (h : FourC w b ob p q r o x V U V' U' (Hk x V) W) (hy : InI y) :
    Calls Try.prog 12 #[.pointer (some ⟨p, 0, none⟩), .int .i64 y] W fun e w' => e = .returned (.tuple #[]) ∧ Four w b ob x q r o V U V' U' w' := by
  obtain ⟨i, j, a, d, c, hn, hc, h⟩ := h
  have hh := five_ne hn
  have h1 := h.sub (E' := [(i, Hk p V), (c, Hk x V), (j, Hk q U), (a, RK r V'), (d, RK o U'), (0, Box b ob)]) (fun x hx => by simp at hx ⊢; rcases hx with rfl | rfl | rfl | rfl | rfl | rfl <;> simp)
  refine (side_ins h1 (fun e he => by simp at he; rcases he with rfl | rfl | rfl | rfl | rfl <;> simp <;> omega) hy).mono fun _ _ ⟨g1, g2⟩ => ⟨g1, c, j, a, d, by simp; omega, g2.out.sub (fun x hx => ?_)⟩
  simp at hx ⊢; rcases hx with rfl | rfl | rfl | rfl | rfl <;> simp
theorem f_alike (h : Four w b ob p q r o V U V U W) (z : Int) :
    Calls Try.prog 18 #[.pointer (some ⟨p, 0, none⟩), .pointer (some ⟨r, 0, none⟩), .int .i64 z] W fun e w' => e = .returned (.bool true) ∧ Four w b ob p q r o V U V U w' := by
  obtain ⟨i, j, a, d, hn, h⟩ := h
  obtain ⟨T, h1, h2⟩ := side_two h (A := Hk p V) (B := RK r V) (i := i) (j := a) (by simp) (by simp)
  exact (alike_any h1 h2 z).mono fun _ _ ⟨h1, h2⟩ => ⟨h1, i, j, a, d, hn, h.below h2⟩
theorem f_lives (h : Four w b ob p q r o V U V' U' W) : Calls Try.prog 11 #[] W fun e w' => e = .returned (.bool true) ∧ Below w.heap.size w w' :=
  (lives_any W).mono fun _ _ ⟨a, b⟩ => ⟨a, h.base.trans (b.mono h.base.size)⟩
end
end Go.Proofs.Ytkmonecolkamjaa
