/- A drawn region by one order: operations that yield the same in every world that meets S (those whose guard is false, too) between those that are run. Conditions: as stated. -/
import Derived.Test.YtlhpbfjelgmkeaaGreatSched
set_option maxRecDepth 100000
namespace Go.Proofs.YtlhpbfjelgmkeaaGreat
open Go.RowKit

section
variable {P : Program} {ops : Array Oper} {Q : Exit → Act → World → Prop} {md : Region.Mode} {S : World → Prop} {st : Nat}

/-- what is listed has all listed that it waits for -/
def Closed (md : Region.Mode) (ops : Array Oper) (l : Array Bool) : Prop := ∀ j o, ops[j]? = some o → l.getD j false = true → ∀ e ∈ o.after, Region.binds md e = true → l.getD e.on false = true
theorem Closed.set {l : Array Bool} {j : Nat} (h : Closed md ops l) (hj : j ∈ Region.ready md ops l) : Closed md ops (l.setIfInBounds j true) := fun k o ho hk e he hb => by
  by_cases hjk : j = k
  · subst hjk
    obtain ⟨_, o', ho', hall⟩ := mem_ready.1 hj
    rw [ho'] at ho
    cases ho
    exact getD_set_true (hall e he hb)
  · rw [getD_set_ne false hjk] at hk
    exact getD_set_true (h k o ho hk e he hb)
theorem closed_none (n : Nat) : Closed md ops (Array.replicate n false) := fun j o ho hj => by
  rw [getD_replicate_false] at hj; cases hj
/-- k waits for i, maybe by others -/
def waitsT (md : Region.Mode) (ops : Array Oper) (i : Nat) : Nat → Nat → Bool
  | 0, _ => false
  | f + 1, k => Region.waitsFor md ops k i || (List.range ops.size).any fun x => Region.waitsFor md ops k x && waitsT md ops i f x
theorem waitsT_not {l : Array Bool} {i : Nat} (hc : Closed md ops l) (hi : i ∈ Region.ready md ops l) : ∀ (f k : Nat), waitsT md ops i f k = true → k ∉ Region.ready md ops l ∧ l.getD k false = false
  | 0, k, h => by simp [waitsT] at h
  | f + 1, k, h => by
    have key : ∀ x, Region.waitsFor md ops k x = true → l.getD x false = false → k ∉ Region.ready md ops l ∧ l.getD k false = false := fun x hx hl => by
      obtain ⟨o, ho, e, he, hb, hon⟩ := Region.waitsFor_spec hx
      subst hon
      refine ⟨fun hk => ?_, ?_⟩
      · obtain ⟨_, o', ho', hall⟩ := mem_ready.1 hk
        rw [ho] at ho'
        cases ho'
        rw [hall e he hb] at hl; cases hl
      · cases hg : l.getD k false with
        | false => rfl
        | true =>
          rw [hc k o ho hg e he hb] at hl; cases hl
    unfold waitsT at h
    simp only [Bool.or_eq_true, List.any_eq_true, Bool.and_eq_true] at h
    rcases h with h | ⟨x, _, h1, h2⟩
    · exact key i h (getD_both (mem_ready.1 hi).1)
    · exact key x h1 (waitsT_not hc hi f x h2).2

theorem wpAnyT_firstI {i : Nat} {oi : Oper} {v : Value} (hi : ops[i]? = some oi) (hsel : ∀ (j : Nat) (o : Oper) cs b, ops[j]? = some o → o.op ≠ .select cs b)
    (hQ : ∀ c a d v w, Q (.panic c) (Act.put a d v) w → Q (.panic c) a w) (hw : ∀ l, Closed md ops l → i ∈ Region.ready md ops l → st ∉ Region.ready md ops l) :
    ∀ (f : Nat) (listed : Array Bool) (a : Act) (w : World),
      (∀ j oj, ops[j]? = some oj → j ≠ i → listed.getD j true = false → (∀ e ∈ oj.after, Region.binds md e = true → e.on ≠ i) → oi.apart ops oj = true) →
      Closed md ops listed → i ∈ Region.ready md ops listed → YieldsIf P ops S oi v a → S w →
      wpAnyT P md ops Q S st f (listed.setIfInBounds i true) (a.put oi.dst v) w → wpAnyT P md ops Q S st (f + 1) listed a w := by
  intro f
  induction f with
  | zero =>
    intro listed a w _ _ hr hy hS H
    refine ⟨fun h => (by rw [h] at hr; cases hr), fun j hj => ?_⟩
    by_cases hji : j = i
    · subst hji
      exact hy.wpOp hi hS ⟨fun _ => hS, H⟩
    · have := ready_mono hj hji
      rw [H.1] at this
      cases this
  | succ f ih =>
    intro listed a w hfree hcl hr hy hS H
    refine ⟨fun h => (by rw [h] at hr; cases hr), fun j hj => ?_⟩
    by_cases hji : j = i
    · subst hji
      exact hy.wpOp hi hS ⟨fun _ => hS, H⟩
    · have hjst : j ≠ st := fun e => hw _ hcl hr (e ▸ hj)
      have h1 := H.2 j (ready_mono hj hji)
      obtain ⟨hjun, oj, hoj, hall⟩ := mem_ready.1 hj
      have hnot : ∀ e ∈ oj.after, Region.binds md e = true → e.on ≠ i := fun e he hb heq => by
        have h1 := hall e he hb
        rw [heq, getD_both (mem_ready.1 hr).1] at h1
        cases h1
      have h2 := wpOp_putIf hoj (hfree j oj hoj hji hjun hnot) (fun cs b => hsel i oi cs b hi) (fun cs b => hsel j oj cs b hoj) (fun c a w => hQ c a _ _ w) hy h1
      have hfree' : ∀ k ok, ops[k]? = some ok → k ≠ i → (listed.setIfInBounds j true).getD k true = false →
          (∀ e ∈ ok.after, Region.binds md e = true → e.on ≠ i) → oi.apart ops ok = true := fun k ok hk hki hun hno => by
        refine hfree k ok hk hki ?_ hno
        by_cases hjk : j = k
        · subst hjk; exact hjun
        · rw [getD_set_ne true hjk] at hun; exact hun
      refine wpOp_mono (fun a' w' h3 => ⟨fun _ => h3.2.1 hjst, ih (listed.setIfInBounds j true) a' w' hfree' (hcl.set hj) (ready_mono hr (Ne.symm hji)) h3.1 (h3.2.1 hjst) ?_⟩) h2
      rw [Array.setIfInBounds_comm _ _ hji]
      exact h3.2.2

theorem never_ready {l : Array Bool} (h : ops.size ≤ st) : st ∉ Region.ready md ops l := fun hj => by
  obtain ⟨_, o, ho, _⟩ := mem_ready.1 hj
  rw [Array.getElem?_eq_none h] at ho
  cases ho

/-- one after another: taken (true) or run (false) -/
def wpMix (P : Program) (ops : Array Oper) (Q : Exit → Act → World → Prop) (S : World → Prop) (st : Nat) : List (Bool × Nat) → Act → World → Prop
  | [], a, w => Q .normal a w
  | (true, i) :: is, a, w => ∃ o v, ops[i]? = some o ∧ YieldsIf P ops S o v a ∧ wpMix P ops Q S st is (a.put o.dst v) w
  | (false, i) :: is, a, w => wpOp P ops Q i (fun a' w' => (i ≠ st → S w') ∧ wpMix P ops Q S st is a' w') a w
def mixB (md : Region.Mode) (ops : Array Oper) (st : Nat) : List (Bool × Nat) → Array Bool → Bool
  | [], listed => (Region.ready md ops listed).isEmpty
  | (true, i) :: is, listed => (Region.ready md ops listed).contains i && Region.free md ops listed i && (waitsT md ops i 8 st || decide (ops.size ≤ st)) && mixB md ops st is (listed.setIfInBounds i true)
  | (false, i) :: is, listed => decide (Region.ready md ops listed = [i]) && (decide (i ≠ st) || is.isEmpty) && mixB md ops st is (listed.setIfInBounds i true)
theorem wpAnyT_mix (hs : Region.noSelect ops = true) (hQ : ∀ c a d v w, Q (.panic c) (Act.put a d v) w → Q (.panic c) a w) :
    ∀ (is : List (Bool × Nat)) (listed : Array Bool) (a : Act) (w : World), Closed md ops listed → mixB md ops st is listed = true → (is ≠ [] → S w) → wpMix P ops Q S st is a w → wpAnyT P md ops Q S st is.length listed a w
  | [], listed, a, w, _, hB, _, h => ⟨by simpa [mixB] using hB, h⟩
  | (true, i) :: is, listed, a, w, hcl, hB, hS, h => by
    simp only [mixB, Bool.and_eq_true, Bool.or_eq_true, decide_eq_true_eq] at hB
    obtain ⟨⟨⟨hr, hf⟩, hw⟩, hB⟩ := hB
    have hw' : ∀ l, Closed md ops l → i ∈ Region.ready md ops l → st ∉ Region.ready md ops l := fun l hc hl => by
      rcases hw with hw | hw
      · exact (waitsT_not hc hl _ _ hw).1
      · exact never_ready hw
    obtain ⟨o, v, ho, hy, h⟩ := h
    have hSw := hS (by simp)
    exact wpAnyT_firstI ho (Region.noSelect_spec hs) hQ hw' _ listed a w (Region.free_spec ho hf) hcl (by simpa using hr) hy hSw (wpAnyT_mix hs hQ is _ _ w (hcl.set (by simpa using hr)) hB (fun _ => hSw) h)
  | (false, i) :: is, listed, a, w, hcl, hB, hS, h => by
    simp only [mixB, Bool.and_eq_true, Bool.or_eq_true, decide_eq_true_eq, List.isEmpty_iff] at hB
    obtain ⟨⟨hr, hi⟩, hB⟩ := hB
    refine ⟨fun h0 => (by rw [hr] at h0; cases h0), fun j hj => ?_⟩
    have hj' := hj
    rw [hr, List.mem_singleton] at hj
    subst hj
    exact wpOp_mono (fun a' w' h' => ⟨h'.1, wpAnyT_mix hs hQ is _ a' w' (hcl.set hj') hB (fun hne => by
      rcases hi with hi | hi
      · exact h'.1 hi
      · exact absurd hi hne) h'.2⟩) h

theorem wpMix_nil {a : Act} {w : World} (h : Q .normal a w) : wpMix P ops (NoPanic Q) S st [] a w := h
theorem wpMix_take {i : Nat} {is : List (Bool × Nat)} {d op ty pos af g} {v : Value} {a : Act} {w : World} (ho : ops[i]? = some ⟨d, op, ty, pos, af, g⟩) (hw : Region.wanted ⟨d, op, ty, pos, af, g⟩ (yielded ops a.tmps) = true) (hy : ∀ w, S w → (execOp a.eval ⟨d, op, ty, pos, af, g⟩).run P w = .ok (.value v) w) (h : wpMix P ops Q S st is (a.put d v) w) : wpMix P ops Q S st ((true, i) :: is) a w :=
  ⟨_, v, ho, .inl ⟨hw, hy⟩, h⟩
theorem wpMix_skip {i : Nat} {is : List (Bool × Nat)} {d op ty pos af g} {a : Act} {w : World} (ho : ops[i]? = some ⟨d, op, ty, pos, af, g⟩) (hw : Region.wanted ⟨d, op, ty, pos, af, g⟩ (yielded ops a.tmps) = false) (h : wpMix P ops Q S st is (a.put d undef) w) : wpMix P ops Q S st ((true, i) :: is) a w :=
  ⟨_, undef, ho, .inr ⟨hw, rfl⟩, h⟩
theorem wpMix_run {i : Nat} {is : List (Bool × Nat)} {d op ty pos af g} {a : Act} {w : World} (ho : ops[i]? = some ⟨d, op, ty, pos, af, g⟩)
    (h : ∀ K : Act → World → Prop, Shut (∀ a' w', (i ≠ st → S w') → wpMix P ops Q S st is a' w' → K a' w') → wpList P ops (Qn Q K) [⟨d, op, ty, pos, af, g⟩] a w) : wpMix P ops Q S st ((false, i) :: is) a w := by
  have h1 := h (fun a' w' => (i ≠ st → S w') ∧ wpMix P ops Q S st is a' w') (fun _ _ x y => ⟨x, y⟩)
  unfold wpMix wpOp
  rw [ho]
  unfold wpList at h1
  generalize (⟨d, op, ty, pos, af, g⟩ : Oper) = o at *
  show if Region.wanted o (yielded ops a.tmps) = true then _ else _
  split at h1
  · rename_i hw
    rw [if_pos hw]
    rcases h1 with h1 | ⟨h1, h2⟩
    · refine .inl ?_
      unfold Oper.wp at h1 ⊢
      generalize (execOp a.eval o).run P w = r at *
      cases r with
      | ok n w' =>
        cases n <;> simp only [Oper.upon] at h1 ⊢
        case value u => exact h1
        case skip => exact h1
        case defer d => exact h1
        case enter f args =>
          refine Calls.mono h1 fun e w'' he => ?_
          cases e with
          | returned u => exact he
          | panicked c => exact he
          | outgrown => exact qn_lets he
        case row row args => exact Rows.mono h1 fun u w'' he => he
      | halt x w' =>
        cases x <;> simp only [Oper.upon] at h1 ⊢
        case panic u => exact h1
    · exact .inr ⟨h1, qn_lets h2⟩
  · rename_i hw
    rw [if_neg hw]
    exact h1

/-- a drawn region by one order -/
theorem wp_region_mix {id : Nat} {a : Act} {w : World} (S : World → Prop) (st : Nat) (is : List (Bool × Nat)) (hm : P.follows .mixedOrders = true) (hn : Region.noSelect ops = true) (hl : is.length = ops.size) (hB : mixB .any ops st is (Array.replicate ops.size false) = true)
    (hS : S w.drew) (h : wpMix P ops (NoPanic Q) S st is a w.drew) : (Code.region id ops true).wp P Q a w := by
  refine wp_region_noPanic ?_
  have hQ : ∀ c a d v w, NoPanic Q (.panic c) (Act.put a d v) w → NoPanic Q (.panic c) a w := fun _ _ _ _ _ h => h
  refine wp_region_any hm (wpAny_of_T (S := S) (st := st) _ _ _ _ ?_)
  have h4 := wpAnyT_mix (md := .any) (Q := NoPanic Q) (st := st) hn hQ is (Array.replicate ops.size false) a w.drew (closed_none _) hB (fun _ => hS) h
  rw [hl] at h4
  exact h4
end
end Go.Proofs.YtlhpbfjelgmkeaaGreat
