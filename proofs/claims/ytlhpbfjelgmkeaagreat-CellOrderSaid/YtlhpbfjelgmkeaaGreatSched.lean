/- A drawn region by one order: what yields the same in every world that meets S comes first, then the rest one after another; behind the last one S need not hold. Conditions: as stated. -/
import Derived.Test.YtlhpbfjelgmkeaaGreatGen
import Derived.OrdersHeld
import Derived.StillTail
import Derived.Deep.RegionHeld3
set_option maxRecDepth 100000
namespace Go.Proofs.YtlhpbfjelgmkeaaGreat
open Go.RowKit

section
variable {P : Program} {ops : Array Oper} {Q : Exit → Act → World → Prop} {md : Region.Mode} {S : World → Prop} {st : Nat}

/-- whatever order is picked; S holds behind each operation but number st -/
def wpAnyT (P : Program) (md : Region.Mode) (ops : Array Oper) (Q : Exit → Act → World → Prop) (S : World → Prop) (st : Nat) : Nat → Array Bool → Act → World → Prop
  | 0, listed, a, w => Region.ready md ops listed = [] ∧ Q .normal a w
  | f + 1, listed, a, w => (Region.ready md ops listed = [] → Q .normal a w) ∧ ∀ i ∈ Region.ready md ops listed, wpOp P ops Q i (fun a' w' => (i ≠ st → S w') ∧ wpAnyT P md ops Q S st f (listed.setIfInBounds i true) a' w') a w
theorem wpAny_of_T : ∀ (f : Nat) (listed : Array Bool) (a : Act) (w : World), wpAnyT P md ops Q S st f listed a w → wpAny P md ops Q f listed a w
  | 0, _, _, _, h => h
  | f + 1, _, _, _, h => ⟨h.1, fun i hi => wpOp_mono (fun a' w' h' => wpAny_of_T f _ a' w' h'.2) (h.2 i hi)⟩

/-- who waits for i does not come up ahead of it -/
theorem not_ready {listed : Array Bool} {i j : Nat} (hi : i ∈ Region.ready md ops listed) (hw : Region.waitsFor md ops j i = true) : j ∉ Region.ready md ops listed := by
  intro hj
  obtain ⟨oj, hoj, e, he, hb, hon⟩ := Region.waitsFor_spec hw
  obtain ⟨_, o, ho, hall⟩ := mem_ready.1 hj
  have e1 : o = oj := Option.some.inj (ho.symm.trans hoj)
  subst e1
  have h1 := hall e he hb
  rw [hon, getD_both (mem_ready.1 hi).1] at h1
  cases h1

theorem wpAnyT_first {i : Nat} {oi : Oper} {v : Value} (hi : ops[i]? = some oi) (hsel : ∀ (j : Nat) (o : Oper) cs b, ops[j]? = some o → o.op ≠ .select cs b)
    (hQ : ∀ c a d v w, Q (.panic c) (Act.put a d v) w → Q (.panic c) a w) (hw : Region.waitsFor md ops st i = true) :
    ∀ (f : Nat) (listed : Array Bool) (a : Act) (w : World),
      (∀ j oj, ops[j]? = some oj → j ≠ i → listed.getD j true = false → (∀ e ∈ oj.after, Region.binds md e = true → e.on ≠ i) → oi.apart ops oj = true) →
      i ∈ Region.ready md ops listed → YieldsIf P ops S oi v a → S w →
      wpAnyT P md ops Q S st f (listed.setIfInBounds i true) (a.put oi.dst v) w → wpAnyT P md ops Q S st (f + 1) listed a w := by
  intro f
  induction f with
  | zero =>
    intro listed a w _ hr hy hS H
    refine ⟨fun h => (by rw [h] at hr; cases hr), fun j hj => ?_⟩
    by_cases hji : j = i
    · subst hji
      exact hy.wpOp hi hS ⟨fun _ => hS, H⟩
    · have := ready_mono hj hji
      rw [H.1] at this
      cases this
  | succ f ih =>
    intro listed a w hfree hr hy hS H
    refine ⟨fun h => (by rw [h] at hr; cases hr), fun j hj => ?_⟩
    by_cases hji : j = i
    · subst hji
      exact hy.wpOp hi hS ⟨fun _ => hS, H⟩
    · have hjst : j ≠ st := fun e => not_ready hr hw (e ▸ hj)
      have h1 := H.2 j (ready_mono hj hji)
      obtain ⟨hjun, oj, hoj, hall⟩ := mem_ready.1 hj
      have hnot : ∀ e ∈ oj.after, Region.binds md e = true → e.on ≠ i := fun e he hb heq => by
        have h1 := hall e he hb
        rw [heq, getD_both (mem_ready.1 hr).1] at h1
        cases h1
      have h2 := wpOp_putIf hoj (hfree j oj hoj hji hjun hnot) (fun cs b => hsel i oi cs b hi) (fun cs b => hsel j oj cs b hoj) (fun c a w => hQ c a _ _ w) hy h1
      have hfree' : ∀ k ok, ops[k]? = some ok → k ≠ i → (listed.setIfInBounds j true).getD k true = false →
          (∀ e ∈ ok.after, Region.binds md e = true → e.on ≠ i) → oi.apart ops ok = true := fun k ok hk hki hun hno => by
        refine hfree k ok hk hki ?_ hno
        by_cases hjk : j = k
        · subst hjk; exact hjun
        · rw [getD_set_ne true hjk] at hun; exact hun
      refine wpOp_mono (fun a' w' h3 => ⟨fun _ => h3.2.1 hjst, ih (listed.setIfInBounds j true) a' w' hfree' (ready_mono hr (Ne.symm hji)) h3.1 (h3.2.1 hjst) ?_⟩) h2
      rw [Array.setIfInBounds_comm _ _ hji]
      exact h3.2.2

/-- the first ones, one after another -/
def wpFirst (P : Program) (ops : Array Oper) (S : World → Prop) (K : Act → Prop) : List Nat → Act → Prop
  | [], a => K a
  | i :: is, a => ∃ o v, ops[i]? = some o ∧ YieldsIf P ops S o v a ∧ wpFirst P ops S K is (a.put o.dst v)
def schFirstB (md : Region.Mode) (ops : Array Oper) (st : Nat) : List Nat → Array Bool → Bool
  | [], _ => true
  | i :: is, listed => (Region.ready md ops listed).contains i && Region.free md ops listed i && Region.waitsFor md ops st i && schFirstB md ops st is (listed.setIfInBounds i true)
def schSetAll : List Nat → Array Bool → Array Bool
  | [], listed => listed
  | i :: is, listed => schSetAll is (listed.setIfInBounds i true)
theorem wpAnyT_firsts (hs : Region.noSelect ops = true) (hQ : ∀ c a d v w, Q (.panic c) (Act.put a d v) w → Q (.panic c) a w) {w : World} (hS : S w) {f : Nat} :
    ∀ (is : List Nat) (listed : Array Bool) (a : Act), schFirstB md ops st is listed = true → wpFirst P ops S (fun a' => wpAnyT P md ops Q S st f (schSetAll is listed) a' w) is a → wpAnyT P md ops Q S st (is.length + f) listed a w
  | [], listed, a, _, h => by rw [List.length_nil, Nat.zero_add]; exact h
  | i :: is, listed, a, hB, h => by
    simp only [schFirstB, Bool.and_eq_true] at hB
    obtain ⟨⟨⟨hr, hf⟩, hw⟩, hB⟩ := hB
    obtain ⟨o, v, ho, hy, h⟩ := h
    rw [List.length_cons, show is.length + 1 + f = (is.length + f) + 1 by omega]
    exact wpAnyT_first ho (Region.noSelect_spec hs) hQ hw _ listed a w (Region.free_spec ho hf) (by simpa using hr) hy hS (wpAnyT_firsts hs hQ hS is _ _ hB h)

/-- the others, one after another -/
def wpRest (P : Program) (ops : Array Oper) (Q : Exit → Act → World → Prop) (S : World → Prop) (st : Nat) : List Nat → Act → World → Prop
  | [], a, w => Q .normal a w
  | i :: is, a, w => wpOp P ops Q i (fun a' w' => (i ≠ st → S w') ∧ wpRest P ops Q S st is a' w') a w
def schRestB (md : Region.Mode) (ops : Array Oper) : List Nat → Array Bool → Bool
  | [], listed => (Region.ready md ops listed).isEmpty
  | i :: is, listed => decide (Region.ready md ops listed = [i]) && schRestB md ops is (listed.setIfInBounds i true)
theorem wpAnyT_rest : ∀ (is : List Nat) (listed : Array Bool) (a : Act) (w : World), schRestB md ops is listed = true → wpRest P ops Q S st is a w → wpAnyT P md ops Q S st is.length listed a w
  | [], listed, a, w, hB, h => ⟨by simpa [schRestB] using hB, h⟩
  | i :: is, listed, a, w, hB, h => by
    simp only [schRestB, Bool.and_eq_true, decide_eq_true_eq] at hB
    refine ⟨fun h0 => (by rw [hB.1] at h0; cases h0), fun j hj => ?_⟩
    rw [hB.1, List.mem_singleton] at hj
    subst hj
    exact wpOp_mono (fun a' w' h' => ⟨h'.1, wpAnyT_rest is _ a' w' hB.2 h'.2⟩) h

/-- the post of one operation -/
def Qn (Q : Exit → Act → World → Prop) (K : Act → World → Prop) : Exit → Act → World → Prop
  | .normal, a, w => K a w
  | e, a, w => Q e a w
theorem qn_lets {K : Act → World → Prop} (h : LetsOut (Qn Q K)) : LetsOut Q := h
theorem wpRest_cons {i : Nat} {is : List Nat} {o : Oper} {a : Act} {w : World} (ho : ops[i]? = some o)
    (h : ∀ K : Act → World → Prop, Shut (∀ a' w', (i ≠ st → S w') → wpRest P ops Q S st is a' w' → K a' w') → wpList P ops (Qn Q K) [o] a w) : wpRest P ops Q S st (i :: is) a w := by
  have h1 := h (fun a' w' => (i ≠ st → S w') ∧ wpRest P ops Q S st is a' w') (fun _ _ x y => ⟨x, y⟩)
  unfold wpRest wpOp
  rw [ho]
  unfold wpList at h1
  show if Region.wanted o (yielded ops a.tmps) = true then _ else _
  split at h1
  · rename_i hw
    rw [if_pos hw]
    rcases h1 with h1 | ⟨h1, h2⟩
    · refine .inl ?_
      unfold Oper.wp at h1 ⊢
      generalize (execOp a.eval o).run P w = r at *
      cases r with
      | ok n w' =>
        cases n <;> simp only [Oper.upon] at h1 ⊢
        case value u => exact h1
        case skip => exact h1
        case defer d => exact h1
        case enter f args =>
          refine Calls.mono h1 fun e w'' he => ?_
          cases e with
          | returned u => exact he
          | panicked c => exact he
          | outgrown => exact qn_lets he
        case row row args => exact Rows.mono h1 fun u w'' he => he
      | halt x w' =>
        cases x <;> simp only [Oper.upon] at h1 ⊢
        case panic u => exact h1
    · exact .inr ⟨h1, qn_lets h2⟩
  · rename_i hw
    rw [if_neg hw]
    exact h1
theorem wpRest_nil {a : Act} {w : World} (h : Q .normal a w) : wpRest P ops (NoPanic Q) S st [] a w := h
theorem wpFirst_nil {K : Act → Prop} {a : Act} (h : K a) : wpFirst P ops S K [] a := h
theorem wpFirst_cons {K : Act → Prop} {i : Nat} {is : List Nat} {o : Oper} {v : Value} {a : Act} (ho : ops[i]? = some o) (hw : Region.wanted o (yielded ops a.tmps) = true) (hy : ∀ w, S w → (execOp a.eval o).run P w = .ok (.value v) w) (h : wpFirst P ops S K is (a.put o.dst v)) : wpFirst P ops S K (i :: is) a :=
  ⟨o, v, ho, .inl ⟨hw, hy⟩, h⟩

def schedB (md : Region.Mode) (ops : Array Oper) (st : Nat) (first rest : List Nat) : Bool :=
  Region.noSelect ops && schFirstB md ops st first (Array.replicate ops.size false) && schRestB md ops rest (schSetAll first (Array.replicate ops.size false)) && decide (first.length + rest.length = ops.size)

/-- a drawn region by one order (that does not panic) -/
theorem wp_region_sched {id : Nat} {a : Act} {w : World} (S : World → Prop) (st : Nat) (first rest : List Nat) (hm : P.follows .mixedOrders = true) (hB : schedB .any ops st first rest = true)
    (hS : S w.drew) (h : wpFirst P ops S (fun a' => wpRest P ops (NoPanic Q) S st rest a' w.drew) first a) : (Code.region id ops true).wp P Q a w := by
  refine wp_region_noPanic ?_
  have hQ : ∀ c a d v w, NoPanic Q (.panic c) (Act.put a d v) w → NoPanic Q (.panic c) a w := fun _ _ _ _ _ h => h
  simp only [schedB, Bool.and_eq_true, decide_eq_true_eq] at hB
  obtain ⟨⟨⟨hs, h1⟩, h2⟩, h3⟩ := hB
  refine wp_region_any hm (wpAny_of_T (S := S) (st := st) _ _ _ _ ?_)
  have mono : ∀ (is : List Nat) (a : Act) (K K' : Act → Prop), (∀ a, K a → K' a) → wpFirst P ops S K is a → wpFirst P ops S K' is a := by
    intro is
    induction is with
    | nil => exact fun a K K' hK h => hK a h
    | cons i is ih =>
      rintro a K K' hK ⟨o, v, ho, hy, h⟩
      exact ⟨o, v, ho, hy, ih _ K K' hK h⟩
  have h4 := wpAnyT_firsts (md := .any) (Q := NoPanic Q) (st := st) (f := rest.length) hs hQ hS first (Array.replicate ops.size false) a h1 (mono first a _ _ (fun a' h' => wpAnyT_rest rest _ a' _ h2 h') h)
  rw [h3] at h4
  exact h4
end
end Go.Proofs.YtlhpbfjelgmkeaaGreat
