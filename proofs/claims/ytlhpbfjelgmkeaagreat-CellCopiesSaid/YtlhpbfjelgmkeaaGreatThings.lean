/- Things that own blocks, side by side in one world: what a call does to one leaves the others as they are. Conditions: none. -/
import Derived.Test.YtlhpbfjelgmkeaaGreatGen
set_option maxRecDepth 100000
namespace Go.Proofs.YtlhpbfjelgmkeaaGreat
open Go.RowKit Go.Maps Go.Sort

/-- only blocks of O (of those that were there) may have changed -/
structure Else (O : Nat → Prop) (w w' : World) : Prop where
  os : w'.os = w.os
  tape : w'.tape = w.tape
  output : w'.output = w.output
  size : w.heap.size ≤ w'.heap.size
  block : ∀ k, k < w.heap.size → ¬ O k → w'.heap[k]? = w.heap[k]?

section
variable {O O' : Nat → Prop} {a b c w w' : World}
theorem Else.refl (O : Nat → Prop) (w : World) : Else O w w := ⟨rfl, rfl, rfl, Nat.le_refl _, fun _ _ _ => rfl⟩
theorem Else.trans (h : Else O a b) (k : Else O' b c) (hS : ∀ x, O' x → O x ∨ a.heap.size ≤ x) : Else O a c :=
  ⟨k.os.trans h.os, k.tape.trans h.tape, k.output.trans h.output, Nat.le_trans h.size k.size, fun i hi hn => (k.block i (Nat.lt_of_lt_of_le hi h.size) (fun hx => by rcases hS i hx with g | g; exact hn g; omega)).trans (h.block i hi hn)⟩
theorem Else.alloc (h : Else O a w) (o : Obj) : Else O a (w.alloc o) :=
  h.trans (O' := fun _ => False) ⟨rfl, rfl, rfl, by simp, fun k hk _ => Below.heap_alloc _ _ _ hk⟩ (fun _ hx => hx.elim)
theorem Else.setCell (h : Else O a w) {p : Addr} (hp : O p.block ∨ a.heap.size ≤ p.block) (u : Value) : Else O a (w.setCell p u) :=
  h.trans (O' := fun x => x = p.block) ⟨rfl, rfl, rfl, by simp [World.setCell], fun k _ hk => Below.heap_setCell _ _ _ _ hk⟩ (fun x hx => by subst hx; exact hp)
theorem Else.drew (h : Else O a w) : Else O a w.drew := ⟨h.os, h.tape, h.output, h.size, h.block⟩
theorem Else.drewN (h : Else O a w) (n : Nat) : Else O a (w.drewN n) := ⟨h.os, h.tape, h.output, h.size, h.block⟩
theorem Else.of_below (h : Below w.heap.size w w') : Else O w w' := ⟨h.os, h.tape, h.output, h.size, fun k hk _ => h.block k hk⟩
theorem Else.of_grown {row : Option Nat} (h : w.grownBy w' row) : Else (fun k => row = some k) w w' := ⟨h.os, h.tape, h.output, h.size, fun k hk hn => h.block k hk (fun e => hn e.symm)⟩
theorem Else.mono (h : Else O w w') (hS : ∀ x, O x → O' x) : Else O' w w' := ⟨h.os, h.tape, h.output, h.size, fun k hk hn => h.block k hk (fun hx => hn (hS k hx))⟩
theorem Else.below {B : Nat} (h : Else O w w') (hB : B ≤ w.heap.size) (hS : ∀ x, O x → B ≤ x) : Below B w w' :=
  ⟨h.os, h.tape, h.output, h.size, fun k hk => h.block k (by omega) (fun hx => by have := hS k hx; omega)⟩
end

/-- whose a block is: nobody's (it is read alone), or thing i's -/
abbrev Tags := Nat → Option Nat
/-- what is known of thing i in a world -/
abbrev Thing := Tags → Nat → World → Prop
/-- what belongs to others has no bearing on a thing -/
def Framed (A : Thing) : Prop := ∀ (T T' : Tags) (i : Nat) (w w' : World), A T i w → (∀ k, k < w.heap.size → T' k = T k) → (∀ k, k < w.heap.size → (T k = none ∨ T k = some i) → w'.heap[k]? = w.heap[k]?) → A T' i w'
/-- what was somebody's stays so -/
def Next (T : Tags) (w : World) (T' : Tags) : Prop := ∀ k, k < w.heap.size → T' k = T k

/-- thing i went on to be A; what is not its own is as it was -/
def Goes (T : Tags) (i : Nat) (w : World) (A : Thing) (w' : World) : Prop := ∃ T', Next T w T' ∧ Else (fun k => T k = some i) w w' ∧ A T' i w'
theorem Goes.start {T : Tags} {i : Nat} {w : World} {A : Thing} (h : A T i w) : Goes T i w A w := ⟨T, fun _ _ => rfl, Else.refl _ _, h⟩
theorem Goes.after {T T1 : Tags} {i : Nat} {w w1 w2 : World} {B : Thing} (n1 : Next T w T1) (e1 : Else (fun k => T k = some i) w w1) (k : Goes T1 i w1 B w2) : Goes T i w B w2 := by
  obtain ⟨T2, n2, e2, h2⟩ := k
  refine ⟨T2, fun k hk => (n2 k (Nat.lt_of_lt_of_le hk e1.size)).trans (n1 k hk), e1.trans e2 (fun x hx => ?_), h2⟩
  rcases Nat.lt_or_ge x w.heap.size with g | g
  · exact .inl ((n1 x g).symm.trans hx)
  · exact .inr g
theorem Else.low {O : Nat → Prop} {a b c : World} (h : Else O a b) (hb : Below b.heap.size b c) : Else O a c := h.trans (Else.of_below (O := fun _ => False) hb) (fun _ h => h.elim)
theorem Goes.trans {T : Tags} {i : Nat} {w w1 w2 : World} {A B : Thing} (h : Goes T i w A w1) (k : ∀ T1, A T1 i w1 → Goes T1 i w1 B w2) : Goes T i w B w2 := by
  obtain ⟨T1, n1, e1, h1⟩ := h
  exact Goes.after n1 e1 (k T1 h1)
theorem Goes.below {T : Tags} {i : Nat} {w w1 w2 : World} {A : Thing} (h : Goes T i w A w1) (hF : Framed A) (hb : Below w1.heap.size w1 w2) : Goes T i w A w2 :=
  h.trans fun T1 h1 => ⟨T1, fun _ _ => rfl, Else.of_below hb, hF T1 T1 i w1 w2 h1 (fun _ _ => rfl) (fun k hk _ => hb.block k hk)⟩
theorem Framed.below {A : Thing} (hF : Framed A) {T : Tags} {i : Nat} {w w' : World} (h : A T i w) (hb : Below w.heap.size w w') : A T i w' := hF T T i w w' h (fun _ _ => rfl) (fun k hk _ => hb.block k hk)

structure SideT (w0 : World) (T : Tags) (E : List (Nat × Thing)) (w : World) : Prop where
  base : Below w0.heap.size w0 w
  old : ∀ k, k < w0.heap.size → T k = none
  at_ : ∀ e ∈ E, Framed e.2 ∧ e.2 T e.1 w
/-- the things of a list, side by side; what was there at the start is as it was -/
def Side (w0 : World) (E : List (Nat × Thing)) (w : World) : Prop := ∃ T, SideT w0 T E w

/-- a block that nobody changes -/
def Box (b : Nat) (ob : Obj) : Thing := fun T _ w => T b = none ∧ w.heap[b]? = some ob
/-- a block of one's own -/
def OBox (b : Nat) (ob : Obj) : Thing := fun T i w => T b = some i ∧ w.heap[b]? = some ob
theorem lt_of_heap {w : World} {b : Nat} {ob : Obj} (h : w.heap[b]? = some ob) : b < w.heap.size := (Array.getElem?_eq_some_iff.1 h).1
theorem Box.framed (b : Nat) (ob : Obj) : Framed (Box b ob) := fun _ _ _ _ _ h hT hw =>
  ⟨(hT b (lt_of_heap h.2)).trans h.1, (hw b (lt_of_heap h.2) (.inl h.1)).trans h.2⟩
theorem OBox.framed (b : Nat) (ob : Obj) : Framed (OBox b ob) := fun _ _ _ _ _ h hT hw =>
  ⟨(hT b (lt_of_heap h.2)).trans h.1, (hw b (lt_of_heap h.2) (.inr h.1)).trans h.2⟩

/-- tags of a world with a block more -/
def Tags.one (T : Tags) (n : Nat) (o : Option Nat) : Tags := fun k => if k < n then T k else o
theorem Tags.one_next (T : Tags) (w : World) (o : Option Nat) : Next T w (T.one w.heap.size o) := fun k hk => by simp [Tags.one, hk]

section
variable {w0 w w' : World} {T T' : Tags} {E E' : List (Nat × Thing)} {i : Nat} {A A' : Thing}

theorem SideT.next (h : SideT w0 T E w) (hn : Next T w T') {j : Nat} (hk : Else (fun k => T k = some j) w w') (hj : ∀ e ∈ E, e.1 ≠ j) : SideT w0 T' E w' where
  base := h.base.trans (hk.below h.base.size (fun x hx => by
    rcases Nat.lt_or_ge x w0.heap.size with g | g
    · rw [h.old x g] at hx; cases hx
    · exact g))
  old := fun k hk' => (hn k (Nat.lt_of_lt_of_le hk' h.base.size)).trans (h.old k hk')
  at_ := fun e he => ⟨(h.at_ e he).1, (h.at_ e he).1 T T' e.1 w w' (h.at_ e he).2 hn (fun k hlt hT => hk.block k hlt (fun hx => by
    rcases hT with hT | hT
    · rw [hT] at hx; cases hx
    · rw [hT] at hx
      exact hj e he (Option.some.inj hx)))⟩
theorem SideT.below (h : SideT w0 T E w) (hb : Below w.heap.size w w') : SideT w0 T E w' where
  base := h.base.trans (hb.mono h.base.size)
  old := h.old
  at_ := fun e he => ⟨(h.at_ e he).1, (h.at_ e he).1 T T e.1 w w' (h.at_ e he).2 (fun _ _ => rfl) (fun k hlt _ => hb.block k hlt)⟩

theorem Side.nil (w : World) : Side w [] w := ⟨fun _ => none, Below.refl _ _, fun _ _ => rfl, fun e he => by simp at he⟩
theorem Side.base (h : Side w0 E w) : Below w0.heap.size w0 w := by obtain ⟨T, h⟩ := h; exact h.base
theorem Side.sub (h : Side w0 E w) (hs : ∀ x ∈ E', x ∈ E) : Side w0 E' w := by
  obtain ⟨T, h⟩ := h
  exact ⟨T, h.base, h.old, fun e he => h.at_ e (hs e he)⟩
/-- all that was there is as it was -/
theorem Side.below (h : Side w0 E w) (hb : Below w.heap.size w w') : Side w0 E w' := by
  obtain ⟨T, h⟩ := h
  exact ⟨T, h.below hb⟩
theorem below_drewN (w : World) (n : Nat) : Below w.heap.size w (w.drewN n) := ⟨rfl, rfl, rfl, Nat.le_refl _, fun _ _ => rfl⟩
theorem below_drew1 (w : World) : Below w.heap.size w w.drew := ⟨rfl, rfl, rfl, Nat.le_refl _, fun _ _ => rfl⟩
theorem below_dN {B : Nat} (h : Below B w w') (n : Nat) : Below B w (w'.drewN n) := ⟨h.os, h.tape, h.output, h.size, h.block⟩
theorem Side.drewN (h : Side w0 E w) (n : Nat) : Side w0 E (w.drewN n) := h.below (below_drewN w n)
theorem Side.drew (h : Side w0 E w) : Side w0 E w.drew := h.below (below_drew1 w)
theorem Side.heap (h : Side w0 E w) {b : Nat} {ob : Obj} (hx : (i, Box b ob) ∈ E) : w.heap[b]? = some ob := by
  obtain ⟨T, h⟩ := h
  exact (h.at_ _ hx).2.2
theorem Side.heapO (h : Side w0 E w) {b : Nat} {ob : Obj} (hx : (i, OBox b ob) ∈ E) : w.heap[b]? = some ob := by
  obtain ⟨T, h⟩ := h
  exact (h.at_ _ hx).2.2
theorem Side.box_ge (h : Side w0 E w) {b : Nat} {ob : Obj} (hx : (i, OBox b ob) ∈ E) : w0.heap.size ≤ b := by
  obtain ⟨T, h⟩ := h
  rcases Nat.lt_or_ge b w0.heap.size with g | g
  · have := (h.at_ _ hx).2.1
    rw [h.old b g] at this; cases this
  · exact g

theorem Side.add (h : SideT w0 T E w) (hn : Next T w T') (hb : Below w.heap.size w w') (hF : Framed A) (hA : A T' i w') : Side w0 ((i, A) :: E) w' := by
  refine ⟨T', h.base.trans (hb.mono h.base.size), fun k hk => (hn k (Nat.lt_of_lt_of_le hk h.base.size)).trans (h.old k hk), fun e he => ?_⟩
  rcases List.mem_cons.1 he with rfl | he
  · exact ⟨hF, hA⟩
  · exact ⟨(h.at_ e he).1, (h.at_ e he).1 T T' e.1 w w' (h.at_ e he).2 hn (fun k hlt _ => hb.block k hlt)⟩
/-- a new block -/
theorem Side.alloc (h : Side w0 E w) (i : Nat) (ob : Obj) : Side w0 ((i, Box w.heap.size ob) :: E) (w.alloc ob) := by
  obtain ⟨T, h⟩ := h
  exact Side.add h (T.one_next w none) ((Below.refl _ _).alloc (Nat.le_refl _) ob) (Box.framed _ _) ⟨by simp [Tags.one], heap_alloc_new w ob⟩
theorem Side.own (h : Side w0 E w) (i : Nat) (ob : Obj) : Side w0 ((i, OBox w.heap.size ob) :: E) (w.alloc ob) := by
  obtain ⟨T, h⟩ := h
  exact Side.add h (T.one_next w (some i)) ((Below.refl _ _).alloc (Nat.le_refl _) ob) (OBox.framed _ _) ⟨by simp [Tags.one], heap_alloc_new w ob⟩
/-- a store into a block of one's own -/
theorem Side.set {b j : Nat} {cs : Array Value} {t : TypeId} (h : Side w0 ((i, OBox b (.cells cs t (0, 0))) :: E) w) (hi : ∀ e ∈ E, e.1 ≠ i) (u : Value) :
    Side w0 ((i, OBox b (.cells (cs.setIfInBounds j u) t (0, 0))) :: E) (w.setCell ⟨b, j, none⟩ u) := by
  obtain ⟨T, h⟩ := h
  obtain ⟨_, h1, h2⟩ := h.at_ _ (List.mem_cons_self ..)
  have hs : SideT w0 T E w := ⟨h.base, h.old, fun e he => h.at_ e (List.mem_cons_of_mem _ he)⟩
  have hk : Else (fun k => T k = some i) w (w.setCell ⟨b, j, none⟩ u) := (Else.refl _ w).setCell (.inl h1) u
  have hs' := hs.next (T' := T) (fun _ _ => rfl) hk hi
  refine ⟨T, hs'.base, hs'.old, fun e he => ?_⟩
  rcases List.mem_cons.1 he with rfl | he
  · exact ⟨OBox.framed _ _, h1, heap_set h2 u⟩
  · exact hs'.at_ e he

variable {P : Program} {f : FuncId} {args : Array Value} {Pr : Ending → Prop}
/-- a call that changes one thing -/
theorem Side.step (h : Side w0 ((i, A) :: E) w) (hi : ∀ e ∈ E, e.1 ≠ i) (hF : Framed A')
    (hc : ∀ T, (∀ k, T k ≠ none → w0.heap.size ≤ k) → (∀ e ∈ (i, A) :: E, e.2 T e.1 w) → Calls P f args w fun r w' => Pr r ∧ Goes T i w A' w') :
    Calls P f args w fun r w' => Pr r ∧ Side w0 ((i, A') :: E) w' := by
  obtain ⟨T, h⟩ := h
  refine (hc T (fun k hk => ?_) (fun e he => (h.at_ e he).2)).mono ?_
  · rcases Nat.lt_or_ge k w0.heap.size with g | g
    · exact absurd (h.old k g) hk
    · exact g
  rintro r w' ⟨hp, T', hn, hk, hA⟩
  have hs : SideT w0 T E w := ⟨h.base, h.old, fun e he => h.at_ e (List.mem_cons_of_mem _ he)⟩
  have hs' := hs.next hn hk hi
  refine ⟨hp, T', hs'.base, hs'.old, fun e he => ?_⟩
  rcases List.mem_cons.1 he with rfl | he
  · exact ⟨hF, hA⟩
  · exact hs'.at_ e he
/-- a call that makes a thing -/
theorem Side.make (h : Side w0 E w) (i : Nat) (A : Nat → Thing) (hF : ∀ p, Framed (A p)) {R : Nat → Ending → Prop}
    (hc : ∀ T, (∀ e ∈ E, e.2 T e.1 w) → Calls P f args w fun r w' => ∃ p, R p r ∧ Below w.heap.size w w' ∧ ∃ T', Next T w T' ∧ A p T' i w') :
    Calls P f args w fun r w' => ∃ p, R p r ∧ Hid (Side w0 ((i, A p) :: E) w') := by
  obtain ⟨T, h⟩ := h
  refine (hc T (fun e he => (h.at_ e he).2)).mono ?_
  rintro r w' ⟨p, hr, hb, T', hn, hA⟩
  exact ⟨p, hr, Side.add h hn hb (hF p) hA⟩
/-- a call that reads one thing -/
theorem Side.read (h : Side w0 E w) (hx : (i, A) ∈ E) (hc : ∀ T, A T i w → Calls P f args w fun r w' => Pr r ∧ Below w.heap.size w w') :
    Calls P f args w fun r w' => Pr r ∧ Below w.heap.size w w' := by
  obtain ⟨T, h⟩ := h
  exact hc T (h.at_ _ hx).2
end
end Go.Proofs.YtlhpbfjelgmkeaaGreat
