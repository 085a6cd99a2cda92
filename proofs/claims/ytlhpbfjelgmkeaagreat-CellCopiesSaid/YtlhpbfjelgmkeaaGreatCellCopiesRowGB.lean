/- The texts Sched2 Tells CodecPlain CodecPut CodecGet GetDig CodecZig ValD, one behind the other; each one's own comment says what it holds. -/
import Derived.Test.YtlhpbfjelgmkeaaGreatCellCopiesRowGA
import Derived.Test.YtlhpbfjelgmkeaaGreatGen
import Derived.Test.YtlhpbfjelgmkeaaGreatBits
import Derived.Outline
import Derived.Test.YtlhpbfjelgmkeaaGreatValC
import Derived.Laws.StructEq
import Derived.Lib.ReplaceLaws
/- A drawn region by one order: operations that yield the same in every world that meets S (those whose guard is false, too) between those that are run. Conditions: as stated. -/
set_option maxRecDepth 100000
namespace Go.Proofs.YtlhpbfjelgmkeaaGreat
open Go.RowKit

section
variable {P : Program} {ops : Array Oper} {Q : Exit → Act → World → Prop} {md : Region.Mode} {S : World → Prop} {st : Nat}

/-- what is listed has all listed that it waits for -/
def Closed (md : Region.Mode) (ops : Array Oper) (l : Array Bool) : Prop := ∀ j o, ops[j]? = some o → l.getD j false = true → ∀ e ∈ o.after, Region.binds md e = true → l.getD e.on false = true
theorem Closed.set {l : Array Bool} {j : Nat} (h : Closed md ops l) (hj : j ∈ Region.ready md ops l) : Closed md ops (l.setIfInBounds j true) := fun k o ho hk e he hb => by
  by_cases hjk : j = k
  · subst hjk
    obtain ⟨_, o', ho', hall⟩ := mem_ready.1 hj
    rw [ho'] at ho
    cases ho
    exact getD_set_true (hall e he hb)
  · rw [getD_set_ne false hjk] at hk
    exact getD_set_true (h k o ho hk e he hb)
theorem closed_none (n : Nat) : Closed md ops (Array.replicate n false) := fun j o ho hj => by
  rw [getD_replicate_false] at hj; cases hj
/-- k waits for i, maybe by others -/
def waitsT (md : Region.Mode) (ops : Array Oper) (i : Nat) : Nat → Nat → Bool
  | 0, _ => false
  | f + 1, k => Region.waitsFor md ops k i || (List.range ops.size).any fun x => Region.waitsFor md ops k x && waitsT md ops i f x
theorem waitsT_not {l : Array Bool} {i : Nat} (hc : Closed md ops l) (hi : i ∈ Region.ready md ops l) : ∀ (f k : Nat), waitsT md ops i f k = true → k ∉ Region.ready md ops l ∧ l.getD k false = false
  | 0, k, h => by simp [waitsT] at h
  | f + 1, k, h => by
    have key : ∀ x, Region.waitsFor md ops k x = true → l.getD x false = false → k ∉ Region.ready md ops l ∧ l.getD k false = false := fun x hx hl => by
      obtain ⟨o, ho, e, he, hb, hon⟩ := Region.waitsFor_spec hx
      subst hon
      refine ⟨fun hk => ?_, ?_⟩
      · obtain ⟨_, o', ho', hall⟩ := mem_ready.1 hk
        rw [ho] at ho'
        cases ho'
        rw [hall e he hb] at hl; cases hl
      · cases hg : l.getD k false with
        | false => rfl
        | true =>
          rw [hc k o ho hg e he hb] at hl; cases hl
    unfold waitsT at h
    simp only [Bool.or_eq_true, List.any_eq_true, Bool.and_eq_true] at h
    rcases h with h | ⟨x, _, h1, h2⟩
    · exact key i h (getD_both (mem_ready.1 hi).1)
    · exact key x h1 (waitsT_not hc hi f x h2).2

theorem wpAnyT_firstI {i : Nat} {oi : Oper} {v : Value} (hi : ops[i]? = some oi) (hsel : ∀ (j : Nat) (o : Oper) cs b, ops[j]? = some o → o.op ≠ .select cs b)
    (hQ : ∀ c a d v w, Q (.panic c) (Act.put a d v) w → Q (.panic c) a w) (hw : ∀ l, Closed md ops l → i ∈ Region.ready md ops l → st ∉ Region.ready md ops l) :
    ∀ (f : Nat) (listed : Array Bool) (a : Act) (w : World),
      (∀ j oj, ops[j]? = some oj → j ≠ i → listed.getD j true = false → (∀ e ∈ oj.after, Region.binds md e = true → e.on ≠ i) → oi.apart ops oj = true) →
      Closed md ops listed → i ∈ Region.ready md ops listed → YieldsIf P ops S oi v a → S w →
      wpAnyT P md ops Q S st f (listed.setIfInBounds i true) (a.put oi.dst v) w → wpAnyT P md ops Q S st (f + 1) listed a w := by
  intro f
  induction f with
  | zero =>
    intro listed a w _ _ hr hy hS H
    refine ⟨fun h => (by rw [h] at hr; cases hr), fun j hj => ?_⟩
    by_cases hji : j = i
    · subst hji
      exact hy.wpOp hi hS ⟨fun _ => hS, H⟩
    · have := ready_mono hj hji
      rw [H.1] at this
      cases this
  | succ f ih =>
    intro listed a w hfree hcl hr hy hS H
    refine ⟨fun h => (by rw [h] at hr; cases hr), fun j hj => ?_⟩
    by_cases hji : j = i
    · subst hji
      exact hy.wpOp hi hS ⟨fun _ => hS, H⟩
    · have hjst : j ≠ st := fun e => hw _ hcl hr (e ▸ hj)
      have h1 := H.2 j (ready_mono hj hji)
      obtain ⟨hjun, oj, hoj, hall⟩ := mem_ready.1 hj
      have hnot : ∀ e ∈ oj.after, Region.binds md e = true → e.on ≠ i := fun e he hb heq => by
        have h1 := hall e he hb
        rw [heq, getD_both (mem_ready.1 hr).1] at h1
        cases h1
      have h2 := wpOp_putIf hoj (hfree j oj hoj hji hjun hnot) (fun cs b => hsel i oi cs b hi) (fun cs b => hsel j oj cs b hoj) (fun c a w => hQ c a _ _ w) hy h1
      have hfree' : ∀ k ok, ops[k]? = some ok → k ≠ i → (listed.setIfInBounds j true).getD k true = false →
          (∀ e ∈ ok.after, Region.binds md e = true → e.on ≠ i) → oi.apart ops ok = true := fun k ok hk hki hun hno => by
        refine hfree k ok hk hki ?_ hno
        by_cases hjk : j = k
        · subst hjk; exact hjun
        · rw [getD_set_ne true hjk] at hun; exact hun
      refine wpOp_mono (fun a' w' h3 => ⟨fun _ => h3.2.1 hjst, ih (listed.setIfInBounds j true) a' w' hfree' (hcl.set hj) (ready_mono hr (Ne.symm hji)) h3.1 (h3.2.1 hjst) ?_⟩) h2
      rw [Array.setIfInBounds_comm _ _ hji]
      exact h3.2.2

theorem never_ready {l : Array Bool} (h : ops.size ≤ st) : st ∉ Region.ready md ops l := fun hj => by
  obtain ⟨_, o, ho, _⟩ := mem_ready.1 hj
  rw [Array.getElem?_eq_none h] at ho
  cases ho

/-- one after another: taken (true) or run (false) -/
def wpMix (P : Program) (ops : Array Oper) (Q : Exit → Act → World → Prop) (S : World → Prop) (st : Nat) : List (Bool × Nat) → Act → World → Prop
  | [], a, w => Q .normal a w
  | (true, i) :: is, a, w => ∃ o v, ops[i]? = some o ∧ YieldsIf P ops S o v a ∧ wpMix P ops Q S st is (a.put o.dst v) w
  | (false, i) :: is, a, w => wpOp P ops Q i (fun a' w' => (i ≠ st → S w') ∧ wpMix P ops Q S st is a' w') a w
def mixB (md : Region.Mode) (ops : Array Oper) (st : Nat) : List (Bool × Nat) → Array Bool → Bool
  | [], listed => (Region.ready md ops listed).isEmpty
  | (true, i) :: is, listed => (Region.ready md ops listed).contains i && Region.free md ops listed i && (waitsT md ops i 8 st || decide (ops.size ≤ st)) && mixB md ops st is (listed.setIfInBounds i true)
  | (false, i) :: is, listed => decide (Region.ready md ops listed = [i]) && (decide (i ≠ st) || is.isEmpty) && mixB md ops st is (listed.setIfInBounds i true)
theorem wpAnyT_mix (hs : Region.noSelect ops = true) (hQ : ∀ c a d v w, Q (.panic c) (Act.put a d v) w → Q (.panic c) a w) :
    ∀ (is : List (Bool × Nat)) (listed : Array Bool) (a : Act) (w : World), Closed md ops listed → mixB md ops st is listed = true → (is ≠ [] → S w) → wpMix P ops Q S st is a w → wpAnyT P md ops Q S st is.length listed a w
  | [], listed, a, w, _, hB, _, h => ⟨by simpa [mixB] using hB, h⟩
  | (true, i) :: is, listed, a, w, hcl, hB, hS, h => by
    simp only [mixB, Bool.and_eq_true, Bool.or_eq_true, decide_eq_true_eq] at hB
    obtain ⟨⟨⟨hr, hf⟩, hw⟩, hB⟩ := hB
    have hw' : ∀ l, Closed md ops l → i ∈ Region.ready md ops l → st ∉ Region.ready md ops l := fun l hc hl => by
      rcases hw with hw | hw
      · exact (waitsT_not hc hl _ _ hw).1
      · exact never_ready hw
    obtain ⟨o, v, ho, hy, h⟩ := h
    have hSw := hS (by simp)
    exact wpAnyT_firstI ho (Region.noSelect_spec hs) hQ hw' _ listed a w (Region.free_spec ho hf) hcl (by simpa using hr) hy hSw (wpAnyT_mix hs hQ is _ _ w (hcl.set (by simpa using hr)) hB (fun _ => hSw) h)
  | (false, i) :: is, listed, a, w, hcl, hB, hS, h => by
    simp only [mixB, Bool.and_eq_true, Bool.or_eq_true, decide_eq_true_eq, List.isEmpty_iff] at hB
    obtain ⟨⟨hr, hi⟩, hB⟩ := hB
    refine ⟨fun h0 => (by rw [hr] at h0; cases h0), fun j hj => ?_⟩
    have hj' := hj
    rw [hr, List.mem_singleton] at hj
    subst hj
    exact wpOp_mono (fun a' w' h' => ⟨h'.1, wpAnyT_mix hs hQ is _ a' w' (hcl.set hj') hB (fun hne => by
      rcases hi with hi | hi
      · exact h'.1 hi
      · exact absurd hi hne) h'.2⟩) h

theorem wpMix_nil {a : Act} {w : World} (h : Q .normal a w) : wpMix P ops (NoPanic Q) S st [] a w := h
theorem wpMix_take {i : Nat} {is : List (Bool × Nat)} {d op ty pos af g} {v : Value} {a : Act} {w : World} (ho : ops[i]? = some ⟨d, op, ty, pos, af, g⟩) (hw : Region.wanted ⟨d, op, ty, pos, af, g⟩ (yielded ops a.tmps) = true) (hy : ∀ w, S w → (execOp a.eval ⟨d, op, ty, pos, af, g⟩).run P w = .ok (.value v) w) (h : wpMix P ops Q S st is (a.put d v) w) : wpMix P ops Q S st ((true, i) :: is) a w :=
  ⟨_, v, ho, .inl ⟨hw, hy⟩, h⟩
theorem wpMix_skip {i : Nat} {is : List (Bool × Nat)} {d op ty pos af g} {a : Act} {w : World} (ho : ops[i]? = some ⟨d, op, ty, pos, af, g⟩) (hw : Region.wanted ⟨d, op, ty, pos, af, g⟩ (yielded ops a.tmps) = false) (h : wpMix P ops Q S st is (a.put d undef) w) : wpMix P ops Q S st ((true, i) :: is) a w :=
  ⟨_, undef, ho, .inr ⟨hw, rfl⟩, h⟩
theorem wpMix_run {i : Nat} {is : List (Bool × Nat)} {d op ty pos af g} {a : Act} {w : World} (ho : ops[i]? = some ⟨d, op, ty, pos, af, g⟩)
    (h : ∀ K : Act → World → Prop, Shut (∀ a' w', (i ≠ st → S w') → wpMix P ops Q S st is a' w' → K a' w') → wpList P ops (Qn Q K) [⟨d, op, ty, pos, af, g⟩] a w) : wpMix P ops Q S st ((false, i) :: is) a w := by
  have h1 := h (fun a' w' => (i ≠ st → S w') ∧ wpMix P ops Q S st is a' w') (fun _ _ x y => ⟨x, y⟩)
  unfold wpMix wpOp
  rw [ho]
  unfold wpList at h1
  generalize (⟨d, op, ty, pos, af, g⟩ : Oper) = o at *
  show if Region.wanted o (yielded ops a.tmps) = true then _ else _
  split at h1
  · rename_i hw
    rw [if_pos hw]
    rcases h1 with h1 | ⟨h1, h2⟩
    · refine .inl ?_
      unfold Oper.wp at h1 ⊢
      generalize (execOp a.eval o).run P w = r at *
      cases r with
      | ok n w' =>
        cases n <;> simp only [Oper.upon] at h1 ⊢
        case value u => exact h1
        case skip => exact h1
        case defer d => exact h1
        case enter f args =>
          refine Calls.mono h1 fun e w'' he => ?_
          cases e with
          | returned u => exact he
          | panicked c => exact he
          | outgrown => exact qn_lets he
        case row row args => exact Rows.mono h1 fun u w'' he => he
      | halt x w' =>
        cases x <;> simp only [Oper.upon] at h1 ⊢
        case panic u => exact h1
    · exact .inr ⟨h1, qn_lets h2⟩
  · rename_i hw
    rw [if_neg hw]
    exact h1

/-- a drawn region by one order -/
theorem wp_region_mix {id : Nat} {a : Act} {w : World} (S : World → Prop) (st : Nat) (is : List (Bool × Nat)) (hm : P.follows .mixedOrders = true) (hn : Region.noSelect ops = true) (hl : is.length = ops.size) (hB : mixB .any ops st is (Array.replicate ops.size false) = true)
    (hS : S w.drew) (h : wpMix P ops (NoPanic Q) S st is a w.drew) : (Code.region id ops true).wp P Q a w := by
  refine wp_region_noPanic ?_
  have hQ : ∀ c a d v w, NoPanic Q (.panic c) (Act.put a d v) w → NoPanic Q (.panic c) a w := fun _ _ _ _ _ h => h
  refine wp_region_any hm (wpAny_of_T (S := S) (st := st) _ _ _ _ ?_)
  have h4 := wpAnyT_mix (md := .any) (Q := NoPanic Q) (st := st) hn hQ is (Array.replicate ops.size false) a w.drew (closed_none _) hB (fun _ => hS) h
  rw [hl] at h4
  exact h4
end
end Go.Proofs.YtlhpbfjelgmkeaaGreat
/- Contracts of talusref01.Same, Words, Ints, Lend, Kept. Conditions: at most 2^43 numbers (Words, Ints), at most 400000 bytes (Lend, Kept). -/
set_option maxRecDepth 100000
namespace Go.Proofs.YtlhpbfjelgmkeaaGreat
open Go.RowKit Go.Maps Go.Sort

theorem info8 : (Tryz.prog.info? 5).map (fun i => (i.zero, i.size, i.bytes)) = some (some (.int .u8 0), 1, 1) := by kernel_rfl
theorem info64 : (Tryz.prog.info? 3).map (fun i => (i.zero, i.size, i.bytes)) = some (some (.int .i64 0), 1, 8) := by kernel_rfl
theorem infoU : (Tryz.prog.info? 43).map (fun i => (i.zero, i.size, i.bytes)) = some (some (.int .u64 0), 1, 8) := by kernel_rfl

theorem app8 {w : World} {B : Nat} {v : Value} {xs : List UInt8} (hown : w.ownsRow B 5 1 v xs.length (u8s xs)) (hB : B ≤ w.heap.size) {sv : Value} {l : List UInt8} (hs : Holds w sv (u8s l)) (hlen : xs.length + l.length ≤ 17592186044416) :
    ∃ v' w', (∀ ty, (Builtin.append_ #[204, 204] ty #[v, sv]).run Tryz.prog w = .ok v' w') ∧ w'.ownsRow B 5 1 v' (xs ++ l).length (u8s (xs ++ l)) ∧ w.grownBy w' v.ownBlock ∧ (v'.ownBlock = v.ownBlock ∨ v'.ownBlock = some w.heap.size) := by
  have := app_any (P := Tryz.prog) Tryz.underlying204 info8 (by omega) rfl (by rw [u8s_len]; exact hown) hB hs (u8s_one l) (by rw [u8s_len, u8s_len]; exact hlen)
  rw [← u8s_append, u8s_len] at this
  exact this
/-- a new block of one byte -/
theorem holds_one8 (w : World) (c : UInt8) (n : Int) (hn : n = (c.toNat : Int)) : Holds (w.alloc (.cells #[.int .u8 n] 5)) (.slice (some ⟨w.heap.size, 0, none⟩) 1 1) (u8s [c]) :=
  Holds.of_heap (alloc1 _ _) (by rw [hn]; rfl) 1 1 rfl (Nat.le_refl _)

theorem toStr {w : World} {v : Value} {l : List UInt8} (h : Holds w v (u8s l)) : (convert 204 9 v).run Tryz.prog w = .ok (.string ⟨l.toArray⟩) w :=
  str_of_holds Tryz.underlying204 Tryz.underlying5 Tryz.underlying9 h

end Go.Proofs.YtlhpbfjelgmkeaaGreat
/- Plain mathematics of package codec: the digits of a number to base 128, and the number that bytes begin with. Conditions: none. -/
set_option maxRecDepth 100000
namespace Go.Proofs.YtlhpbfjelgmkeaaGreat

/-- the digits of a number to base 128 -/
def dig (u : Nat) : List UInt8 := if h : u < 128 then [UInt8.ofNat u] else UInt8.ofNat (u % 128 + 128) :: dig (u / 128)
termination_by u
decreasing_by omega
theorem dig_lo {u : Nat} (h : u < 128) : dig u = [UInt8.ofNat u] := by rw [dig, dif_pos h]
theorem dig_hi {u : Nat} (h : ¬ u < 128) : dig u = UInt8.ofNat (u % 128 + 128) :: dig (u / 128) := by rw [dig, dif_neg h]
theorem dig_len (k : Nat) : ∀ u : Nat, u < 128 ^ k → (dig u).length ≤ k ∨ k = 0 := by
  induction k with
  | zero => intro u _; exact .inr rfl
  | succ k ih =>
    intro u hu
    by_cases h : u < 128
    · rw [dig_lo h]; exact .inl (by simp)
    · rw [dig_hi h]
      refine .inl ?_
      have h2 : u / 128 < 128 ^ k := by
        rw [Nat.div_lt_iff_lt_mul (by omega)]; rw [Nat.pow_succ] at hu; exact hu
      rcases ih _ h2 with h3 | rfl
      · simp; exact h3
      · simp at hu; omega
theorem dig_len10 {u : Nat} (hu : u < 18446744073709551616) : (dig u).length ≤ 10 := by
  rcases dig_len 10 u (by omega) with h | h
  · exact h
  · omega
theorem dig300 : dig 300 = [172, 2] := by
  rw [dig_hi (by omega), dig_lo (by omega)]; decide
end Go.Proofs.YtlhpbfjelgmkeaaGreat
/- Contracts of codec.put, codec.Put and talusref02.Put: the digits of a number behind bytes. Conditions: fewer than 2^43 bytes. -/
set_option maxRecDepth 100000
namespace Go.Proofs.YtlhpbfjelgmkeaaGreat
open Go.RowKit Go.Maps Go.Sort

theorem grown_trans {w w1 w2 : World} {r r' : Option Nat} (h : w.grownBy w1 r) (h2 : w1.grownBy w2 r') (hr : r' = r ∨ ∀ g, r' = some g → w.heap.size ≤ g) : w.grownBy w2 r :=
  ⟨h2.os.trans h.os, h2.tape.trans h.tape, h2.output.trans h.output, Nat.le_trans h.size h2.size, fun k hk hn =>
    (h2.block k (Nat.lt_of_lt_of_le hk h.size) (fun e => by
      rcases hr with hr | hr
      · exact hn (hr ▸ e)
      · have := hr k e.symm; omega)).trans (h.block k hk hn)⟩
theorem grown_alloc (w : World) (o : Obj) (r : Option Nat) : w.grownBy (w.alloc o) r :=
  ⟨rfl, rfl, rfl, by simp, fun k hk _ => Below.heap_alloc _ _ _ hk⟩
theorem grown_refl (w : World) (r : Option Nat) : w.grownBy w r := ⟨rfl, rfl, rfl, Nat.le_refl _, fun _ _ _ => rfl⟩

theorem put_step {w wr : World} {B : Nat} {v v' : Value} {ys : List UInt8} (h : wr.ownsRow B 5 1 v' ys.length (u8s ys) ∧ w.grownBy wr v.ownBlock ∧ (v'.ownBlock = v.ownBlock ∨ ∀ g, v'.ownBlock = some g → w.heap.size ≤ g)) (hB : B ≤ w.heap.size) (c : UInt8) (n : Int) (hn : n = (c.toNat : Int)) (hy : ys.length ≤ 17592186044100) :
    ∃ v2 w2, Hid (∀ ty, (Builtin.append_ #[204, 204] ty #[v', .slice (some ⟨wr.heap.size, 0, none⟩) 1 1]).run Tryz.prog (wr.alloc (.cells #[.int .u8 n] 5)) = .ok v2 w2) ∧
      Hid (w2.ownsRow B 5 1 v2 (ys ++ [c]).length (u8s (ys ++ [c])) ∧ w.grownBy w2 v.ownBlock ∧ (v2.ownBlock = v.ownBlock ∨ ∀ g, v2.ownBlock = some g → w.heap.size ≤ g)) := by
  obtain ⟨h1, h2, h3⟩ := h
  have hs := h2.size
  obtain ⟨v2, w2, r, o, g, b⟩ := app8 (h1.alloc (.cells #[.int .u8 n] 5)) (by simp; omega) (holds_one8 wr c n hn) (by simp; omega)
  refine ⟨v2, w2, r, o, ?_, ?_⟩
  · refine grown_trans (grown_trans h2 (grown_alloc wr _ none) (.inr (fun g e => by cases e))) g ?_
    exact h3
  · rcases b with b | b
    · rw [b]; exact h3
    · refine .inr (fun g e => ?_)
      rw [b] at e
      simp at e
      omega

/-- Put: a copy with the digits behind it -/
theorem mk8 (w : World) (n m : Int) (k c : Nat) (hn : n = (k : Int)) (hm : m = (c : Int)) (hk : k ≤ c) (hc : c ≤ 17592186044416) :
    (Instr.makeSlice 204 (.int .i64 n) (.int .i64 m)).run Tryz.prog w = .ok (.slice (some ⟨w.heap.size, 0, none⟩) k c) (w.alloc (.cells (u8s (List.replicate c 0)).toArray 5)) := by
  obtain ⟨i, hi, hz0, hz1, hz2⟩ := info_parts info8
  subst hn hm
  have := run_make (P := Tryz.prog) w 204 5 i (.int .u8 0) Tryz.underlying204 hi hz0 .i64 .i64 (k : Int) c (by omega) (by omega) (by rw [hz2]; omega) (by omega)
  rw [this, hz1]
  simp only [Int.toNat_natCast, Nat.mul_one, Value.cells]
  have e : madeCells #[Value.int .u8 0] c = (u8s (List.replicate c 0)).toArray := by
    apply Array.toList_inj.1
    rw [toList_madeCells_one]
    simp [u8s]
  rw [e]

end Go.Proofs.YtlhpbfjelgmkeaaGreat
/- Contracts of codec.Get and talusref02.Get: the number that bytes begin with. Conditions: none. -/
set_option maxRecDepth 100000
namespace Go.Proofs.YtlhpbfjelgmkeaaGreat
open Go.RowKit Go.Maps Go.Sort

/-- the number that bytes begin with, i digits being read -/
def getAt : List UInt8 → Nat → Nat → Nat × Nat
  | [], _, _ => (0, 0)
  | c :: r, i, u => if 10 ≤ i then (0, 0) else if i = 9 ∧ 1 < c.toNat then (0, 0) else
    if c.toNat < 128 then (if 0 < i ∧ c.toNat = 0 then (0, 0) else (u + c.toNat * 2 ^ (7 * i), i + 1)) else getAt r (i + 1) (u + (c.toNat - 128) * 2 ^ (7 * i))
def getN (l : List UInt8) : Nat × Nat := getAt l 0 0

theorem drop_at {l : List UInt8} {k : Nat} (h : k < l.length) : l.drop k = l[k] :: l.drop (k + 1) := by rw [List.drop_eq_getElem_cons h]

theorem get_nil (i u : Nat) : getAt [] i u = (0, 0) := rfl
theorem get_ten (l : List UInt8) (u : Nat) : getAt l 10 u = (0, 0) := by
  cases l with
  | nil => rfl
  | cons c r => rw [getAt, if_pos (by omega)]
theorem get_bad (c : UInt8) (r : List UInt8) (u : Nat) (h : 1 < c.toNat) : getAt (c :: r) 9 u = (0, 0) := by
  rw [getAt, if_neg (by omega), if_pos ⟨rfl, h⟩]
theorem get_zero (c : UInt8) (r : List UInt8) (i u : Nat) (hi : 0 < i) (hi2 : i < 10) (h : c.toNat = 0) : getAt (c :: r) i u = (0, 0) := by
  rw [getAt, if_neg (by omega), if_neg (by omega), if_pos (by omega), if_pos ⟨hi, h⟩]
theorem get_last (c : UInt8) (r : List UInt8) (i u : Nat) (hi2 : i < 10) (h0 : ¬ (0 < i ∧ c.toNat = 0)) (h9 : ¬ (i = 9 ∧ 1 < c.toNat)) (h : c.toNat < 128) : getAt (c :: r) i u = (u + c.toNat * 2 ^ (7 * i), i + 1) := by
  rw [getAt, if_neg (by omega), if_neg h9, if_pos h, if_neg h0]
theorem get_more (c : UInt8) (r : List UInt8) (i u : Nat) (hi2 : i < 10) (h : ¬ c.toNat < 128) : getAt (c :: r) i u = getAt r (i + 1) (u + (c.toNat - 128) * 2 ^ (7 * i)) := by
  by_cases h9 : i = 9
  · subst h9
    rw [get_bad _ _ _ (by omega), get_ten]
  · rw [getAt, if_neg (by omega), if_neg (by omega), if_neg h]

/-- the arithmetic of one digit -/
theorem get_arith (k d U : Nat) (hk : k < 10) (hd : d < 128) (hU : U < 2 ^ (7 * k)) (h : ¬ (k = 9 ∧ 2 ≤ d)) :
    IntKind.u64.wrap ((d : Int) * 2 ^ (7 * k)) = ((d * 2 ^ (7 * k) : Nat) : Int) ∧ (((d * 2 ^ (7 * k) : Nat) : Int) / 2 ^ (7 * k) != (d : Int)) = false ∧
    bits .or .u64 (U : Int) ((d * 2 ^ (7 * k) : Nat) : Int) = ((U + d * 2 ^ (7 * k) : Nat) : Int) ∧ U + d * 2 ^ (7 * k) < 2 ^ (7 * (k + 1)) := by
  have hp : 0 < 2 ^ (7 * k) := Nat.two_pow_pos _
  have hlt : d * 2 ^ (7 * k) < 18446744073709551616 := by
    by_cases h9 : k = 9
    · subst h9
      have : d ≤ 1 := by omega
      have := Nat.mul_le_mul_right (2 ^ (7 * 9)) this
      omega
    · have h1 : 2 ^ (7 * k) ≤ 2 ^ 56 := Nat.pow_le_pow_right (by omega) (by omega)
      have h2 := Nat.mul_le_mul (show d ≤ 127 by omega) h1
      omega
  have hlt2 : U < 18446744073709551616 := by
    have h1 : 2 ^ (7 * k) ≤ 2 ^ 63 := Nat.pow_le_pow_right (by omega) (by omega)
    omega
  have hor : U ||| d * 2 ^ (7 * k) = U + d * 2 ^ (7 * k) := by
    rw [Nat.or_comm, Nat.mul_comm, ← Nat.two_pow_add_eq_or_of_lt hU d, Nat.add_comm]
  have hc : ((d * 2 ^ (7 * k) : Nat) : Int) = (d : Int) * 2 ^ (7 * k) := by simp
  refine ⟨?_, ?_, ?_, ?_⟩
  · rw [← hc]; exact IntWalk.u64_in _ (by omega)
  · rw [hc, Int.mul_ediv_cancel _ (Int.ne_of_gt (Int.pow_pos (by omega)))]; simp
  · rw [or_u64 _ _ hlt2 hlt, hor]
  · rw [show 7 * (k + 1) = 7 * k + 7 by omega, Nat.pow_add]
    have : d * 2 ^ (7 * k) ≤ 127 * 2 ^ (7 * k) := Nat.mul_le_mul_right _ (by omega)
    omega
theorem get_over (k d : Nat) (hk : k = 9) (hd : d < 128) (h : 2 ≤ d) : (IntKind.u64.wrap ((d : Int) * 2 ^ (7 * k)) / 2 ^ (7 * k) != (d : Int)) = true := by
  subst hk
  rw [bne_iff_ne, IntKind.wrap_u64]
  omega

end Go.Proofs.YtlhpbfjelgmkeaaGreat
/- The number that its digits begin with is read back. Conditions: none. -/
set_option maxRecDepth 100000
namespace Go.Proofs.YtlhpbfjelgmkeaaGreat

theorem get_dig (r : List UInt8) (x : Nat) : ∀ (i U : Nat), i < 10 → x * 2 ^ (7 * i) < 18446744073709551616 → (0 < i → 0 < x) → getAt (dig x ++ r) i U = (U + x * 2 ^ (7 * i), i + (dig x).length) := by
  induction x using Nat.strongRecOn with
  | _ x ih =>
    intro i U hi hb h0
    have hp : 0 < 2 ^ (7 * i) := Nat.two_pow_pos _
    by_cases h : x < 128
    · rw [dig_lo h]
      have e : (UInt8.ofNat x).toNat = x := by simp; omega
      have h9 : ¬ (i = 9 ∧ 1 < (UInt8.ofNat x).toNat) := by
        rw [e]
        rintro ⟨rfl, h1⟩
        have := Nat.mul_le_mul_right (2 ^ (7 * 9)) (show 2 ≤ x by omega)
        omega
      rw [List.singleton_append, get_last _ _ _ _ hi (by rw [e]; omega) h9 (by rw [e]; exact h), e]
      rfl
    · have hi8 : i ≤ 8 := by
        rcases Nat.lt_or_ge i 9 with g | g
        · omega
        · obtain rfl : i = 9 := by omega
          have := Nat.mul_le_mul_right (2 ^ (7 * 9)) (show 128 ≤ x by omega)
          omega
      rw [dig_hi h, List.cons_append, get_more _ _ _ _ hi (by simp; omega)]
      have e : (UInt8.ofNat (x % 128 + 128)).toNat - 128 = x % 128 := by simp; omega
      have hpow : 2 ^ (7 * (i + 1)) = 128 * 2 ^ (7 * i) := by rw [show 7 * (i + 1) = 7 + 7 * i by omega, Nat.pow_add]
      have hsplit : x % 128 * 2 ^ (7 * i) + x / 128 * 2 ^ (7 * (i + 1)) = x * 2 ^ (7 * i) := by
        rw [hpow, ← Nat.mul_assoc, ← Nat.add_mul]
        congr 1
        omega
      rw [ih (x / 128) (by omega) (i + 1) _ (by omega) (by omega) (by omega), e]
      rw [Nat.add_assoc U, hsplit]
      simp
      omega
theorem get_dig0 (r : List UInt8) {u : Nat} (hu : u < 18446744073709551616) : getN (dig u ++ r) = (u, (dig u).length) := by
  unfold getN
  rw [get_dig r u 0 0 (by omega) (by simpa using hu) (by omega)]
  simp
theorem dig_pos (u : Nat) : 0 < (dig u).length := by
  by_cases h : u < 128
  · rw [dig_lo h]; simp
  · rw [dig_hi h]; simp
end Go.Proofs.YtlhpbfjelgmkeaaGreat
/- Contracts of codec.Zig, codec.Zag and the document's own: ints without a sign. Conditions: none. -/
set_option maxRecDepth 100000
namespace Go.Proofs.YtlhpbfjelgmkeaaGreat
open Go.RowKit Go.Maps Go.Sort

def zigN (n : Int) : Int := if n < 0 then -2 * n - 1 else 2 * n
def zagN (u : Nat) : Int := if u % 2 = 1 then -((u / 2 : Nat) : Int) - 1 else ((u / 2 : Nat) : Int)
theorem zig_neg {n : Int} (h : n < 0) : zigN n = -2 * n - 1 := by unfold zigN; rw [if_pos h]
theorem zig_pos {n : Int} (h : ¬ n < 0) : zigN n = 2 * n := by unfold zigN; rw [if_neg h]
theorem zag_odd {u : Nat} (h : u % 2 = 1) : zagN u = -((u / 2 : Nat) : Int) - 1 := by unfold zagN; rw [if_pos h]
theorem zag_even {u : Nat} (h : ¬ u % 2 = 1) : zagN u = ((u / 2 : Nat) : Int) := by unfold zagN; rw [if_neg h]
theorem zig_walk {n : Int} (h1 : -9223372036854775808 ≤ n) (h : n < 0) : bits BinOp.xor IntKind.u64 IntKind.u64.max (IntKind.u64.wrap (IntKind.u64.wrap n * 2)) = zigN n := by
  rw [zig_neg h]
  have e : IntKind.u64.wrap (IntKind.u64.wrap n * 2) = ((2 * n + 18446744073709551616).toNat : Int) := by
    rw [IntKind.wrap_u64, IntKind.wrap_u64]; omega
  rw [e, not_u64 _ (by omega)]
  omega

end Go.Proofs.YtlhpbfjelgmkeaaGreat
/- Values of rows: the text of a Str, a Null is good, the document's examples. Conditions: as stated. -/
set_option maxRecDepth 100000
namespace Go.Proofs.YtlhpbfjelgmkeaaGreat
open Go.RowKit Go.Lib

/-- the bound of the library's search is some number -/
def MaxOk (w : World) : Prop := ∃ m, w.cell? ⟨0, 0, none⟩ = some (.int .i64 m)
theorem MaxOk.below {w w' : World} (h : MaxOk w) (hb : Below w.heap.size w w') : MaxOk w' := by
  obtain ⟨m, hm⟩ := h
  exact ⟨m, by rw [hb.cell (World.block_lt_of_cell? _ _ hm)]; exact hm⟩
def quoteB (s : ByteArray) : ByteArray := ⟨#[39]⟩ ++ ⟨(Lib.replaceAll s.data.toList [39] [39, 39]).toArray⟩ ++ ⟨#[39]⟩
theorem replaceK_len (old new : List UInt8) : ∀ (k : Nat) (s : List UInt8), (Lib.replaceK old new k s).length ≤ s.length + k * new.length
  | 0, s => by simp [Lib.replaceK]
  | k + 1, s => by
    unfold Lib.replaceK
    split
    · have : 0 ≤ (k + 1) * new.length := Nat.zero_le _
      omega
    · have ih := replaceK_len old new k (s.drop ((Lib.index s old).toNat + old.length))
      simp only [List.length_append, List.length_take, List.length_drop] at ih ⊢
      have e : (k + 1) * new.length = k * new.length + new.length := Nat.succ_mul _ _
      omega
theorem replaceAll_len (s : List UInt8) (h : Lib.count s [39] ≤ s.length) : (Lib.replaceAll s [39] [39, 39]).length ≤ 3 * s.length := by
  have h1 : Lib.replaceAll s [39] [39, 39] = Lib.replaceK [39] [39, 39] (Lib.replaceNum s [39] (-1)) s := rfl
  have h2 : Lib.replaceNum s [39] (-1) = Lib.count s [39] := by unfold Lib.replaceNum; rw [if_pos (by omega)]
  rw [h1, h2]
  have := replaceK_len [39] [39, 39] (Lib.count s [39]) s
  simp only [List.length_cons, List.length_nil] at this
  omega
theorem quote_count (s : ByteArray) : Lib.countB s ⟨#[39]⟩ ≤ s.size := by
  have := Lib.countB_mul_le ⟨#[39]⟩ (by decide) s.size s (Nat.le_refl _)
  have h2 : (⟨#[39]⟩ : ByteArray).size = 1 := rfl
  rw [h2] at this; omega
theorem m_str_text (v : Value) (w : World) : (method 501 172 v "talus/value.text").run Tryz.prog w = .ok (339, v) w := by kernel_rfl
theorem m_null_good (v : Value) (w : World) : (method 501 170 v "talus/value.good").run Tryz.prog w = .ok (307, v) w := by kernel_rfl
theorem m_int_good (v : Value) (w : World) : (method 501 212 v "talus/value.good").run Tryz.prog w = .ok (356, v) w := by kernel_rfl
theorem m_float_good (v : Value) (w : World) : (method 501 171 v "talus/value.good").run Tryz.prog w = .ok (310, v) w := by kernel_rfl
theorem m_str_good (v : Value) (w : World) : (method 501 172 v "talus/value.good").run Tryz.prog w = .ok (338, v) w := by kernel_rfl
theorem m_bool_good (v : Value) (w : World) : (method 501 213 v "talus/value.good").run Tryz.prog w = .ok (365, v) w := by kernel_rfl
theorem m_other_good (v : Value) (w : World) : (method 501 214 v "talus/value.good").run Tryz.prog w = .ok (368, v) w := by kernel_rfl


theorem goodNull_any (w : World) : Calls Tryz.prog 307 #[.agg #[]] w fun e w' => e = .returned (.bool true) ∧ Below w.heap.size w w' := by
  go_enter Tryz.func307, Tryz.ntmps307
  go_wp2_with fail
  go_ret
  exact ⟨rfl, (Below.refl _ _).alloc (Nat.le_refl _) _⟩
theorem goodInt_any (n : Int) (w : World) : Calls Tryz.prog 356 #[.int .i64 n] w fun e w' => e = .returned (.bool true) ∧ Below w.heap.size w w' := by
  go_enter Tryz.func356, Tryz.ntmps356
  go_wp2_with fail
  go_ret
  exact ⟨rfl, Below.refl _ _⟩
theorem goodOther_any (n : Int) (w : World) : Calls Tryz.prog 368 #[.int .i64 n] w fun e w' => e = .returned (.bool false) ∧ Below w.heap.size w w' := by
  go_enter Tryz.func368, Tryz.ntmps368
  go_wp2_with fail
  go_ret
  exact ⟨rfl, Below.refl _ _⟩
theorem goodFloat_any (n : Int) (h0 : -9223372036854775808 ≤ n) (h1 : n < 9223372036854775808) (w : World) : Calls Tryz.prog 310 #[.int .i64 n] w fun e w' => e = .returned (.bool (goodW (wi n))) ∧ Below w.heap.size w w' := by
  have KG := ogood_any (wi n) (wi_lt n)
  rw [iw_wi n h0 h1] at KG
  clear h0 h1
  go_enter Tryz.func310, Tryz.ntmps310
  go_wp2_with fail
  refine (KG _).mono ?_
  rintro e w1 ⟨rfl, rfl⟩
  go_wp2_with fail
  go_ret
  exact ⟨rfl, Below.refl _ _⟩
theorem goodStr_any (s : ByteArray) (w : World) : Calls Tryz.prog 338 #[.string s] w fun e w' => e = .returned (.bool (decide (s.size ≤ 64))) ∧ Below w.heap.size w w' := by
  go_enter Tryz.func338, Tryz.ntmps338
  go_wp2_with fail
  go_ret
  exact ⟨by simp; omega, Below.refl _ _⟩
theorem goodBool_any (n : Int) (w : World) : Calls Tryz.prog 365 #[.int .i64 n] w fun e w' => e = .returned (.bool (n == 0 || n == 1)) ∧ Below w.heap.size w w' := by
  cases e0 : (n == 0) <;> cases e1 : (n == 1)
  all_goals (
    go_enter Tryz.func365, Tryz.ntmps365
    go_wp2_with fail
    go_ret
    exact ⟨rfl, Below.refl _ _⟩)
def sameV (k n : Int) (s : ByteArray) (k' n' : Int) (s' : ByteArray) : Bool := k == k' && (n == n' && s.toList == s'.toList)
theorem eql_val (w : World) (k n : Int) (s : ByteArray) (k' n' : Int) (s' : ByteArray) : (binOp .eql 36 (vv k n s) (vv k' n' s')).run Tryz.prog w = .ok (.bool (sameV k n s k' n' s')) w := by
  have u3 := Tryz.underlying3
  have u9 := Tryz.underlying9
  have hS : Tryz.prog.underlying 36 = some (.struct (Tryz.prog.fieldsOf 36)) := by kernel_rfl
  have hp : Tryz.prog.stoodInHeld 36 = false := by kernel_rfl
  unfold sameV
  rw [run_eql_struct, show (10000 : Nat) = 9999 + 1 from rfl, run_equalIn_agg w 9999 36 _ _ hS hp]
  simp only [Program.fieldsOf, Tryz.underlying36]
  cases e0 : (k == k') <;> cases e1 : (n == n') <;> cases e2 : (s.toList == s'.toList)
  all_goals (
    go_simp
    try simp_all)
theorem guard_val (w : World) (o : BinOp) (x y : Operand) (k n : Int) (s : ByteArray) (k' n' : Int) (s' : ByteArray) : (eqGuard o 36 x y (vv k n s) (vv k' n' s')).run Tryz.prog w = .ok () w :=
  run_eqGuard_agg w o _ x y _ _ (by kernel_rfl)
theorem good_state {w w' : World} {k n : Int} {s : ByteArray} (hb : Below (w.heap.size + 1) (w.alloc (.cells #[.int .i64 k, .int .i64 n, .string s] 36)) w') :
    (w'.cell? ⟨w.heap.size, 0, none⟩ = some (.int .i64 k) ∧ w'.cell? ⟨w.heap.size, 1, none⟩ = some (.int .i64 n) ∧ w'.cell? ⟨w.heap.size, 2, none⟩ = some (.string s)) ∧ Below w.heap.size w w' := by
  have hz : (w.alloc (.cells #[.int .i64 k, .int .i64 n, .string s] 36)).heap.size = w.heap.size + 1 := by simp
  exact ⟨(C3.new w (.int .i64 k) (.int .i64 n) (.string s) 36).keep hb (by omega), ((Below.refl w.heap.size w).alloc (Nat.le_refl _) _).trans (hb.mono (by omega))⟩
theorem good_next {w w1 w2 : World} {o : Obj} (hb : Below (w.heap.size + 1) (w.alloc o) w1) (hk : Below w1.heap.size w1 w2) : Below (w.heap.size + 1) (w.alloc o) w2 := by
  have hz : (w.alloc o).heap.size = w.heap.size + 1 := by simp
  have := hb.size
  exact hb.trans (hk.mono (by omega))
theorem vgood_null (n : Int) (s : ByteArray) (b : Bool) (KM : ∀ w, Calls Tryz.prog 307 #[.agg #[]] w fun e w' => e = .returned (.bool b) ∧ Below w.heap.size w w') (w : World) :
    Calls Tryz.prog 110 #[vv 0 n s] w fun e w' => e = .returned (.bool (b && sameV 0 0 ⟨#[]⟩ 0 n s)) ∧ Below w.heap.size w w' := by
  have KC := content_null n s
  have KV := of_null
  have mg := m_null_good
  have KE := eql_val
  have KU := guard_val
  cases b
  · go_enter Tryz.func110, Tryz.ntmps110
    go_wp2_with fail
    refine (KC _).mono ?_
    rintro e w1 ⟨rfl, hb⟩
    have hb : Below (w.heap.size + 1) (w.alloc (.cells #[.int .i64 0, .int .i64 n, .string s] 36)) w1 := hb.mono (by simp)
    have HB := Lib.hid hb
    have S0 := (good_state hb.drew).1
    clear hb KC
    go_wp2_with fail
    refine wp_region_mix (fun W => W.cell? ⟨w.heap.size, 0, none⟩ = some (.int .i64 0) ∧ W.cell? ⟨w.heap.size, 1, none⟩ = some (.int .i64 n) ∧ W.cell? ⟨w.heap.size, 2, none⟩ = some (.string s)) 9 [(true, 0), (false, 1), (true, 2), (true, 3), (true, 5), (true, 4), (true, 6), (true, 7), (true, 8)] (by kernel_rfl) (by decide +kernel) rfl (by decide +kernel) S0 ?_
    iterate 1
      refine wpMix_take (v := ?_) rfl rfl ?_ ?_
      rotate_left
      · (intro W hW; (try dsimp only at hW); go_simp) <;> with_reducible rfl
      simp only [Act.put, List.setIfInBounds_toArray, List.set_cons_zero, List.set_cons_succ]
    refine wpMix_run rfl ?_
    intro K hK
    go_wp2_with fail
    refine (KM _).mono ?_
    rintro e w2 ⟨rfl, hb2⟩
    have hb3 := good_next HB.out.drew hb2
    have HB3 := Lib.hid hb3
    have S1 := (good_state hb3).1
    clear hb2 hb3 HB
    go_wp2_with fail
    refine hK.out _ _ (fun _ => S1) ?_
    clear hK K
    iterate 1
      refine wpMix_take (v := ?_) rfl rfl ?_ ?_
      rotate_left
      · (intro W hW; (try dsimp only at hW); go_simp) <;> with_reducible rfl
      simp only [Act.put, List.setIfInBounds_toArray, List.set_cons_zero, List.set_cons_succ]
    iterate 4
      refine wpMix_skip rfl rfl ?_
      simp only [Act.put, List.setIfInBounds_toArray, List.set_cons_zero, List.set_cons_succ]
    iterate 2
      refine wpMix_take (v := ?_) rfl rfl ?_ ?_
      rotate_left
      · (intro W hW; (try dsimp only at hW); go_simp) <;> with_reducible rfl
      simp only [Act.put, List.setIfInBounds_toArray, List.set_cons_zero, List.set_cons_succ]
    refine wpMix_nil ?_
    go_wp2_with fail
    go_ret
    exact ⟨rfl, (good_state HB3.out).2⟩
  · go_enter Tryz.func110, Tryz.ntmps110
    go_wp2_with fail
    refine (KC _).mono ?_
    rintro e w1 ⟨rfl, hb⟩
    have hb : Below (w.heap.size + 1) (w.alloc (.cells #[.int .i64 0, .int .i64 n, .string s] 36)) w1 := hb.mono (by simp)
    have HB := Lib.hid hb
    have S0 := (good_state hb.drew).1
    clear hb KC
    go_wp2_with fail
    refine wp_region_mix (fun W => W.cell? ⟨w.heap.size, 0, none⟩ = some (.int .i64 0) ∧ W.cell? ⟨w.heap.size, 1, none⟩ = some (.int .i64 n) ∧ W.cell? ⟨w.heap.size, 2, none⟩ = some (.string s)) 9 [(true, 0), (false, 1), (true, 2), (true, 3), (true, 5), (false, 4), (true, 6), (true, 7), (true, 8)] (by kernel_rfl) (by decide +kernel) rfl (by decide +kernel) S0 ?_
    iterate 1
      refine wpMix_take (v := ?_) rfl rfl ?_ ?_
      rotate_left
      · (intro W hW; (try dsimp only at hW); go_simp) <;> with_reducible rfl
      simp only [Act.put, List.setIfInBounds_toArray, List.set_cons_zero, List.set_cons_succ]
    refine wpMix_run rfl ?_
    intro K hK
    go_wp2_with fail
    refine (KM _).mono ?_
    rintro e w2 ⟨rfl, hb2⟩
    have hb3 := good_next HB.out.drew hb2
    have HB3 := Lib.hid hb3
    have S1 := (good_state hb3).1
    clear hb2 hb3 HB
    go_wp2_with fail
    refine hK.out _ _ (fun _ => S1) ?_
    clear hK K
    iterate 3
      refine wpMix_take (v := ?_) rfl rfl ?_ ?_
      rotate_left
      · (intro W hW; (try dsimp only at hW); go_simp) <;> with_reducible rfl
      simp only [Act.put, List.setIfInBounds_toArray, List.set_cons_zero, List.set_cons_succ]
    refine wpMix_run rfl ?_
    intro K hK
    go_wp2_with fail
    refine (KV _).mono ?_
    rintro e w3 ⟨rfl, hb4⟩
    have hb5 := good_next HB3.out hb4
    have HB5 := Lib.hid hb5
    have S2 := (good_state hb5).1
    clear hb4 hb5 HB3
    go_wp2_with fail
    refine hK.out _ _ (fun _ => S2) ?_
    clear hK K
    iterate 3
      refine wpMix_take (v := ?_) rfl rfl ?_ ?_
      rotate_left
      · (intro W hW; (try dsimp only at hW); go_simp) <;> with_reducible rfl
      simp only [Act.put, List.setIfInBounds_toArray, List.set_cons_zero, List.set_cons_succ]
    refine wpMix_nil ?_
    go_wp2_with fail
    go_ret
    exact ⟨by simp, (good_state HB5.out).2⟩
theorem vgood_int (n : Int) (s : ByteArray) (b : Bool) (KM : ∀ w, Calls Tryz.prog 356 #[.int .i64 n] w fun e w' => e = .returned (.bool b) ∧ Below w.heap.size w w') (w : World) :
    Calls Tryz.prog 110 #[vv 1 n s] w fun e w' => e = .returned (.bool (b && sameV 1 n ⟨#[]⟩ 1 n s)) ∧ Below w.heap.size w w' := by
  have KC := content_int n s
  have KV := of_int n
  have mg := m_int_good
  have KE := eql_val
  have KU := guard_val
  cases b
  · go_enter Tryz.func110, Tryz.ntmps110
    go_wp2_with fail
    refine (KC _).mono ?_
    rintro e w1 ⟨rfl, hb⟩
    have hb : Below (w.heap.size + 1) (w.alloc (.cells #[.int .i64 1, .int .i64 n, .string s] 36)) w1 := hb.mono (by simp)
    have HB := Lib.hid hb
    have S0 := (good_state hb.drew).1
    clear hb KC
    go_wp2_with fail
    refine wp_region_mix (fun W => W.cell? ⟨w.heap.size, 0, none⟩ = some (.int .i64 1) ∧ W.cell? ⟨w.heap.size, 1, none⟩ = some (.int .i64 n) ∧ W.cell? ⟨w.heap.size, 2, none⟩ = some (.string s)) 9 [(true, 0), (false, 1), (true, 2), (true, 3), (true, 5), (true, 4), (true, 6), (true, 7), (true, 8)] (by kernel_rfl) (by decide +kernel) rfl (by decide +kernel) S0 ?_
    iterate 1
      refine wpMix_take (v := ?_) rfl rfl ?_ ?_
      rotate_left
      · (intro W hW; (try dsimp only at hW); go_simp) <;> with_reducible rfl
      simp only [Act.put, List.setIfInBounds_toArray, List.set_cons_zero, List.set_cons_succ]
    refine wpMix_run rfl ?_
    intro K hK
    go_wp2_with fail
    refine (KM _).mono ?_
    rintro e w2 ⟨rfl, hb2⟩
    have hb3 := good_next HB.out.drew hb2
    have HB3 := Lib.hid hb3
    have S1 := (good_state hb3).1
    clear hb2 hb3 HB
    go_wp2_with fail
    refine hK.out _ _ (fun _ => S1) ?_
    clear hK K
    iterate 1
      refine wpMix_take (v := ?_) rfl rfl ?_ ?_
      rotate_left
      · (intro W hW; (try dsimp only at hW); go_simp) <;> with_reducible rfl
      simp only [Act.put, List.setIfInBounds_toArray, List.set_cons_zero, List.set_cons_succ]
    iterate 4
      refine wpMix_skip rfl rfl ?_
      simp only [Act.put, List.setIfInBounds_toArray, List.set_cons_zero, List.set_cons_succ]
    iterate 2
      refine wpMix_take (v := ?_) rfl rfl ?_ ?_
      rotate_left
      · (intro W hW; (try dsimp only at hW); go_simp) <;> with_reducible rfl
      simp only [Act.put, List.setIfInBounds_toArray, List.set_cons_zero, List.set_cons_succ]
    refine wpMix_nil ?_
    go_wp2_with fail
    go_ret
    exact ⟨rfl, (good_state HB3.out).2⟩
  · go_enter Tryz.func110, Tryz.ntmps110
    go_wp2_with fail
    refine (KC _).mono ?_
    rintro e w1 ⟨rfl, hb⟩
    have hb : Below (w.heap.size + 1) (w.alloc (.cells #[.int .i64 1, .int .i64 n, .string s] 36)) w1 := hb.mono (by simp)
    have HB := Lib.hid hb
    have S0 := (good_state hb.drew).1
    clear hb KC
    go_wp2_with fail
    refine wp_region_mix (fun W => W.cell? ⟨w.heap.size, 0, none⟩ = some (.int .i64 1) ∧ W.cell? ⟨w.heap.size, 1, none⟩ = some (.int .i64 n) ∧ W.cell? ⟨w.heap.size, 2, none⟩ = some (.string s)) 9 [(true, 0), (false, 1), (true, 2), (true, 3), (true, 5), (false, 4), (true, 6), (true, 7), (true, 8)] (by kernel_rfl) (by decide +kernel) rfl (by decide +kernel) S0 ?_
    iterate 1
      refine wpMix_take (v := ?_) rfl rfl ?_ ?_
      rotate_left
      · (intro W hW; (try dsimp only at hW); go_simp) <;> with_reducible rfl
      simp only [Act.put, List.setIfInBounds_toArray, List.set_cons_zero, List.set_cons_succ]
    refine wpMix_run rfl ?_
    intro K hK
    go_wp2_with fail
    refine (KM _).mono ?_
    rintro e w2 ⟨rfl, hb2⟩
    have hb3 := good_next HB.out.drew hb2
    have HB3 := Lib.hid hb3
    have S1 := (good_state hb3).1
    clear hb2 hb3 HB
    go_wp2_with fail
    refine hK.out _ _ (fun _ => S1) ?_
    clear hK K
    iterate 3
      refine wpMix_take (v := ?_) rfl rfl ?_ ?_
      rotate_left
      · (intro W hW; (try dsimp only at hW); go_simp) <;> with_reducible rfl
      simp only [Act.put, List.setIfInBounds_toArray, List.set_cons_zero, List.set_cons_succ]
    refine wpMix_run rfl ?_
    intro K hK
    go_wp2_with fail
    refine (KV _).mono ?_
    rintro e w3 ⟨rfl, hb4⟩
    have hb5 := good_next HB3.out hb4
    have HB5 := Lib.hid hb5
    have S2 := (good_state hb5).1
    clear hb4 hb5 HB3
    go_wp2_with fail
    refine hK.out _ _ (fun _ => S2) ?_
    clear hK K
    iterate 3
      refine wpMix_take (v := ?_) rfl rfl ?_ ?_
      rotate_left
      · (intro W hW; (try dsimp only at hW); go_simp) <;> with_reducible rfl
      simp only [Act.put, List.setIfInBounds_toArray, List.set_cons_zero, List.set_cons_succ]
    refine wpMix_nil ?_
    go_wp2_with fail
    go_ret
    exact ⟨by simp, (good_state HB5.out).2⟩
theorem vgood_float (n : Int) (s : ByteArray) (b : Bool) (KM : ∀ w, Calls Tryz.prog 310 #[.int .i64 n] w fun e w' => e = .returned (.bool b) ∧ Below w.heap.size w w') (w : World) :
    Calls Tryz.prog 110 #[vv 2 n s] w fun e w' => e = .returned (.bool (b && sameV 2 n ⟨#[]⟩ 2 n s)) ∧ Below w.heap.size w w' := by
  have KC := content_float n s
  have KV := of_float n
  have mg := m_float_good
  have KE := eql_val
  have KU := guard_val
  cases b
  · go_enter Tryz.func110, Tryz.ntmps110
    go_wp2_with fail
    refine (KC _).mono ?_
    rintro e w1 ⟨rfl, hb⟩
    have hb : Below (w.heap.size + 1) (w.alloc (.cells #[.int .i64 2, .int .i64 n, .string s] 36)) w1 := hb.mono (by simp)
    have HB := Lib.hid hb
    have S0 := (good_state hb.drew).1
    clear hb KC
    go_wp2_with fail
    refine wp_region_mix (fun W => W.cell? ⟨w.heap.size, 0, none⟩ = some (.int .i64 2) ∧ W.cell? ⟨w.heap.size, 1, none⟩ = some (.int .i64 n) ∧ W.cell? ⟨w.heap.size, 2, none⟩ = some (.string s)) 9 [(true, 0), (false, 1), (true, 2), (true, 3), (true, 5), (true, 4), (true, 6), (true, 7), (true, 8)] (by kernel_rfl) (by decide +kernel) rfl (by decide +kernel) S0 ?_
    iterate 1
      refine wpMix_take (v := ?_) rfl rfl ?_ ?_
      rotate_left
      · (intro W hW; (try dsimp only at hW); go_simp) <;> with_reducible rfl
      simp only [Act.put, List.setIfInBounds_toArray, List.set_cons_zero, List.set_cons_succ]
    refine wpMix_run rfl ?_
    intro K hK
    go_wp2_with fail
    refine (KM _).mono ?_
    rintro e w2 ⟨rfl, hb2⟩
    have hb3 := good_next HB.out.drew hb2
    have HB3 := Lib.hid hb3
    have S1 := (good_state hb3).1
    clear hb2 hb3 HB
    go_wp2_with fail
    refine hK.out _ _ (fun _ => S1) ?_
    clear hK K
    iterate 1
      refine wpMix_take (v := ?_) rfl rfl ?_ ?_
      rotate_left
      · (intro W hW; (try dsimp only at hW); go_simp) <;> with_reducible rfl
      simp only [Act.put, List.setIfInBounds_toArray, List.set_cons_zero, List.set_cons_succ]
    iterate 4
      refine wpMix_skip rfl rfl ?_
      simp only [Act.put, List.setIfInBounds_toArray, List.set_cons_zero, List.set_cons_succ]
    iterate 2
      refine wpMix_take (v := ?_) rfl rfl ?_ ?_
      rotate_left
      · (intro W hW; (try dsimp only at hW); go_simp) <;> with_reducible rfl
      simp only [Act.put, List.setIfInBounds_toArray, List.set_cons_zero, List.set_cons_succ]
    refine wpMix_nil ?_
    go_wp2_with fail
    go_ret
    exact ⟨rfl, (good_state HB3.out).2⟩
  · go_enter Tryz.func110, Tryz.ntmps110
    go_wp2_with fail
    refine (KC _).mono ?_
    rintro e w1 ⟨rfl, hb⟩
    have hb : Below (w.heap.size + 1) (w.alloc (.cells #[.int .i64 2, .int .i64 n, .string s] 36)) w1 := hb.mono (by simp)
    have HB := Lib.hid hb
    have S0 := (good_state hb.drew).1
    clear hb KC
    go_wp2_with fail
    refine wp_region_mix (fun W => W.cell? ⟨w.heap.size, 0, none⟩ = some (.int .i64 2) ∧ W.cell? ⟨w.heap.size, 1, none⟩ = some (.int .i64 n) ∧ W.cell? ⟨w.heap.size, 2, none⟩ = some (.string s)) 9 [(true, 0), (false, 1), (true, 2), (true, 3), (true, 5), (false, 4), (true, 6), (true, 7), (true, 8)] (by kernel_rfl) (by decide +kernel) rfl (by decide +kernel) S0 ?_
    iterate 1
      refine wpMix_take (v := ?_) rfl rfl ?_ ?_
      rotate_left
      · (intro W hW; (try dsimp only at hW); go_simp) <;> with_reducible rfl
      simp only [Act.put, List.setIfInBounds_toArray, List.set_cons_zero, List.set_cons_succ]
    refine wpMix_run rfl ?_
    intro K hK
    go_wp2_with fail
    refine (KM _).mono ?_
    rintro e w2 ⟨rfl, hb2⟩
    have hb3 := good_next HB.out.drew hb2
    have HB3 := Lib.hid hb3
    have S1 := (good_state hb3).1
    clear hb2 hb3 HB
    go_wp2_with fail
    refine hK.out _ _ (fun _ => S1) ?_
    clear hK K
    iterate 3
      refine wpMix_take (v := ?_) rfl rfl ?_ ?_
      rotate_left
      · (intro W hW; (try dsimp only at hW); go_simp) <;> with_reducible rfl
      simp only [Act.put, List.setIfInBounds_toArray, List.set_cons_zero, List.set_cons_succ]
    refine wpMix_run rfl ?_
    intro K hK
    go_wp2_with fail
    refine (KV _).mono ?_
    rintro e w3 ⟨rfl, hb4⟩
    have hb5 := good_next HB3.out hb4
    have HB5 := Lib.hid hb5
    have S2 := (good_state hb5).1
    clear hb4 hb5 HB3
    go_wp2_with fail
    refine hK.out _ _ (fun _ => S2) ?_
    clear hK K
    iterate 3
      refine wpMix_take (v := ?_) rfl rfl ?_ ?_
      rotate_left
      · (intro W hW; (try dsimp only at hW); go_simp) <;> with_reducible rfl
      simp only [Act.put, List.setIfInBounds_toArray, List.set_cons_zero, List.set_cons_succ]
    refine wpMix_nil ?_
    go_wp2_with fail
    go_ret
    exact ⟨by simp, (good_state HB5.out).2⟩
theorem vgood_str (n : Int) (s : ByteArray) (b : Bool) (KM : ∀ w, Calls Tryz.prog 338 #[.string s] w fun e w' => e = .returned (.bool b) ∧ Below w.heap.size w w') (w : World) :
    Calls Tryz.prog 110 #[vv 3 n s] w fun e w' => e = .returned (.bool (b && sameV 3 0 s 3 n s)) ∧ Below w.heap.size w w' := by
  have KC := content_str n s
  have KV := of_str s
  have mg := m_str_good
  have KE := eql_val
  have KU := guard_val
  cases b
  · go_enter Tryz.func110, Tryz.ntmps110
    go_wp2_with fail
    refine (KC _).mono ?_
    rintro e w1 ⟨rfl, hb⟩
    have hb : Below (w.heap.size + 1) (w.alloc (.cells #[.int .i64 3, .int .i64 n, .string s] 36)) w1 := hb.mono (by simp)
    have HB := Lib.hid hb
    have S0 := (good_state hb.drew).1
    clear hb KC
    go_wp2_with fail
    refine wp_region_mix (fun W => W.cell? ⟨w.heap.size, 0, none⟩ = some (.int .i64 3) ∧ W.cell? ⟨w.heap.size, 1, none⟩ = some (.int .i64 n) ∧ W.cell? ⟨w.heap.size, 2, none⟩ = some (.string s)) 9 [(true, 0), (false, 1), (true, 2), (true, 3), (true, 5), (true, 4), (true, 6), (true, 7), (true, 8)] (by kernel_rfl) (by decide +kernel) rfl (by decide +kernel) S0 ?_
    iterate 1
      refine wpMix_take (v := ?_) rfl rfl ?_ ?_
      rotate_left
      · (intro W hW; (try dsimp only at hW); go_simp) <;> with_reducible rfl
      simp only [Act.put, List.setIfInBounds_toArray, List.set_cons_zero, List.set_cons_succ]
    refine wpMix_run rfl ?_
    intro K hK
    go_wp2_with fail
    refine (KM _).mono ?_
    rintro e w2 ⟨rfl, hb2⟩
    have hb3 := good_next HB.out.drew hb2
    have HB3 := Lib.hid hb3
    have S1 := (good_state hb3).1
    clear hb2 hb3 HB
    go_wp2_with fail
    refine hK.out _ _ (fun _ => S1) ?_
    clear hK K
    iterate 1
      refine wpMix_take (v := ?_) rfl rfl ?_ ?_
      rotate_left
      · (intro W hW; (try dsimp only at hW); go_simp) <;> with_reducible rfl
      simp only [Act.put, List.setIfInBounds_toArray, List.set_cons_zero, List.set_cons_succ]
    iterate 4
      refine wpMix_skip rfl rfl ?_
      simp only [Act.put, List.setIfInBounds_toArray, List.set_cons_zero, List.set_cons_succ]
    iterate 2
      refine wpMix_take (v := ?_) rfl rfl ?_ ?_
      rotate_left
      · (intro W hW; (try dsimp only at hW); go_simp) <;> with_reducible rfl
      simp only [Act.put, List.setIfInBounds_toArray, List.set_cons_zero, List.set_cons_succ]
    refine wpMix_nil ?_
    go_wp2_with fail
    go_ret
    exact ⟨rfl, (good_state HB3.out).2⟩
  · go_enter Tryz.func110, Tryz.ntmps110
    go_wp2_with fail
    refine (KC _).mono ?_
    rintro e w1 ⟨rfl, hb⟩
    have hb : Below (w.heap.size + 1) (w.alloc (.cells #[.int .i64 3, .int .i64 n, .string s] 36)) w1 := hb.mono (by simp)
    have HB := Lib.hid hb
    have S0 := (good_state hb.drew).1
    clear hb KC
    go_wp2_with fail
    refine wp_region_mix (fun W => W.cell? ⟨w.heap.size, 0, none⟩ = some (.int .i64 3) ∧ W.cell? ⟨w.heap.size, 1, none⟩ = some (.int .i64 n) ∧ W.cell? ⟨w.heap.size, 2, none⟩ = some (.string s)) 9 [(true, 0), (false, 1), (true, 2), (true, 3), (true, 5), (false, 4), (true, 6), (true, 7), (true, 8)] (by kernel_rfl) (by decide +kernel) rfl (by decide +kernel) S0 ?_
    iterate 1
      refine wpMix_take (v := ?_) rfl rfl ?_ ?_
      rotate_left
      · (intro W hW; (try dsimp only at hW); go_simp) <;> with_reducible rfl
      simp only [Act.put, List.setIfInBounds_toArray, List.set_cons_zero, List.set_cons_succ]
    refine wpMix_run rfl ?_
    intro K hK
    go_wp2_with fail
    refine (KM _).mono ?_
    rintro e w2 ⟨rfl, hb2⟩
    have hb3 := good_next HB.out.drew hb2
    have HB3 := Lib.hid hb3
    have S1 := (good_state hb3).1
    clear hb2 hb3 HB
    go_wp2_with fail
    refine hK.out _ _ (fun _ => S1) ?_
    clear hK K
    iterate 3
      refine wpMix_take (v := ?_) rfl rfl ?_ ?_
      rotate_left
      · (intro W hW; (try dsimp only at hW); go_simp) <;> with_reducible rfl
      simp only [Act.put, List.setIfInBounds_toArray, List.set_cons_zero, List.set_cons_succ]
    refine wpMix_run rfl ?_
    intro K hK
    go_wp2_with fail
    refine (KV _).mono ?_
    rintro e w3 ⟨rfl, hb4⟩
    have hb5 := good_next HB3.out hb4
    have HB5 := Lib.hid hb5
    have S2 := (good_state hb5).1
    clear hb4 hb5 HB3
    go_wp2_with fail
    refine hK.out _ _ (fun _ => S2) ?_
    clear hK K
    iterate 3
      refine wpMix_take (v := ?_) rfl rfl ?_ ?_
      rotate_left
      · (intro W hW; (try dsimp only at hW); go_simp) <;> with_reducible rfl
      simp only [Act.put, List.setIfInBounds_toArray, List.set_cons_zero, List.set_cons_succ]
    refine wpMix_nil ?_
    go_wp2_with fail
    go_ret
    exact ⟨by simp, (good_state HB5.out).2⟩
theorem vgood_bool (n : Int) (s : ByteArray) (b : Bool) (KM : ∀ w, Calls Tryz.prog 365 #[.int .i64 n] w fun e w' => e = .returned (.bool b) ∧ Below w.heap.size w w') (w : World) :
    Calls Tryz.prog 110 #[vv 4 n s] w fun e w' => e = .returned (.bool (b && sameV 4 n ⟨#[]⟩ 4 n s)) ∧ Below w.heap.size w w' := by
  have KC := content_bool n s
  have KV := of_truth n
  have mg := m_bool_good
  have KE := eql_val
  have KU := guard_val
  cases b
  · go_enter Tryz.func110, Tryz.ntmps110
    go_wp2_with fail
    refine (KC _).mono ?_
    rintro e w1 ⟨rfl, hb⟩
    have hb : Below (w.heap.size + 1) (w.alloc (.cells #[.int .i64 4, .int .i64 n, .string s] 36)) w1 := hb.mono (by simp)
    have HB := Lib.hid hb
    have S0 := (good_state hb.drew).1
    clear hb KC
    go_wp2_with fail
    refine wp_region_mix (fun W => W.cell? ⟨w.heap.size, 0, none⟩ = some (.int .i64 4) ∧ W.cell? ⟨w.heap.size, 1, none⟩ = some (.int .i64 n) ∧ W.cell? ⟨w.heap.size, 2, none⟩ = some (.string s)) 9 [(true, 0), (false, 1), (true, 2), (true, 3), (true, 5), (true, 4), (true, 6), (true, 7), (true, 8)] (by kernel_rfl) (by decide +kernel) rfl (by decide +kernel) S0 ?_
    iterate 1
      refine wpMix_take (v := ?_) rfl rfl ?_ ?_
      rotate_left
      · (intro W hW; (try dsimp only at hW); go_simp) <;> with_reducible rfl
      simp only [Act.put, List.setIfInBounds_toArray, List.set_cons_zero, List.set_cons_succ]
    refine wpMix_run rfl ?_
    intro K hK
    go_wp2_with fail
    refine (KM _).mono ?_
    rintro e w2 ⟨rfl, hb2⟩
    have hb3 := good_next HB.out.drew hb2
    have HB3 := Lib.hid hb3
    have S1 := (good_state hb3).1
    clear hb2 hb3 HB
    go_wp2_with fail
    refine hK.out _ _ (fun _ => S1) ?_
    clear hK K
    iterate 1
      refine wpMix_take (v := ?_) rfl rfl ?_ ?_
      rotate_left
      · (intro W hW; (try dsimp only at hW); go_simp) <;> with_reducible rfl
      simp only [Act.put, List.setIfInBounds_toArray, List.set_cons_zero, List.set_cons_succ]
    iterate 4
      refine wpMix_skip rfl rfl ?_
      simp only [Act.put, List.setIfInBounds_toArray, List.set_cons_zero, List.set_cons_succ]
    iterate 2
      refine wpMix_take (v := ?_) rfl rfl ?_ ?_
      rotate_left
      · (intro W hW; (try dsimp only at hW); go_simp) <;> with_reducible rfl
      simp only [Act.put, List.setIfInBounds_toArray, List.set_cons_zero, List.set_cons_succ]
    refine wpMix_nil ?_
    go_wp2_with fail
    go_ret
    exact ⟨rfl, (good_state HB3.out).2⟩
  · go_enter Tryz.func110, Tryz.ntmps110
    go_wp2_with fail
    refine (KC _).mono ?_
    rintro e w1 ⟨rfl, hb⟩
    have hb : Below (w.heap.size + 1) (w.alloc (.cells #[.int .i64 4, .int .i64 n, .string s] 36)) w1 := hb.mono (by simp)
    have HB := Lib.hid hb
    have S0 := (good_state hb.drew).1
    clear hb KC
    go_wp2_with fail
    refine wp_region_mix (fun W => W.cell? ⟨w.heap.size, 0, none⟩ = some (.int .i64 4) ∧ W.cell? ⟨w.heap.size, 1, none⟩ = some (.int .i64 n) ∧ W.cell? ⟨w.heap.size, 2, none⟩ = some (.string s)) 9 [(true, 0), (false, 1), (true, 2), (true, 3), (true, 5), (false, 4), (true, 6), (true, 7), (true, 8)] (by kernel_rfl) (by decide +kernel) rfl (by decide +kernel) S0 ?_
    iterate 1
      refine wpMix_take (v := ?_) rfl rfl ?_ ?_
      rotate_left
      · (intro W hW; (try dsimp only at hW); go_simp) <;> with_reducible rfl
      simp only [Act.put, List.setIfInBounds_toArray, List.set_cons_zero, List.set_cons_succ]
    refine wpMix_run rfl ?_
    intro K hK
    go_wp2_with fail
    refine (KM _).mono ?_
    rintro e w2 ⟨rfl, hb2⟩
    have hb3 := good_next HB.out.drew hb2
    have HB3 := Lib.hid hb3
    have S1 := (good_state hb3).1
    clear hb2 hb3 HB
    go_wp2_with fail
    refine hK.out _ _ (fun _ => S1) ?_
    clear hK K
    iterate 3
      refine wpMix_take (v := ?_) rfl rfl ?_ ?_
      rotate_left
      · (intro W hW; (try dsimp only at hW); go_simp) <;> with_reducible rfl
      simp only [Act.put, List.setIfInBounds_toArray, List.set_cons_zero, List.set_cons_succ]
    refine wpMix_run rfl ?_
    intro K hK
    go_wp2_with fail
    refine (KV _).mono ?_
    rintro e w3 ⟨rfl, hb4⟩
    have hb5 := good_next HB3.out hb4
    have HB5 := Lib.hid hb5
    have S2 := (good_state hb5).1
    clear hb4 hb5 HB3
    go_wp2_with fail
    refine hK.out _ _ (fun _ => S2) ?_
    clear hK K
    iterate 3
      refine wpMix_take (v := ?_) rfl rfl ?_ ?_
      rotate_left
      · (intro W hW; (try dsimp only at hW); go_simp) <;> with_reducible rfl
      simp only [Act.put, List.setIfInBounds_toArray, List.set_cons_zero, List.set_cons_succ]
    refine wpMix_nil ?_
    go_wp2_with fail
    go_ret
    exact ⟨by simp, (good_state HB5.out).2⟩
theorem vgood_other (k n : Int) (s : ByteArray) (hk : k < 0 ∨ 4 < k) (w : World) :
    Calls Tryz.prog 110 #[vv k n s] w fun e w' => e = .returned (.bool false) ∧ Below w.heap.size w w' := by
  have KC := fun w => content_other k n s w hk
  have KM := goodOther_any n
  have mg := m_other_good
  clear hk
  go_enter Tryz.func110, Tryz.ntmps110
  go_wp2_with fail
  refine (KC _).mono ?_
  rintro e w1 ⟨rfl, hb⟩
  have hb : Below (w.heap.size + 1) (w.alloc (.cells #[.int .i64 k, .int .i64 n, .string s] 36)) w1 := hb.mono (by simp)
  have HB := Lib.hid hb
  have S0 := (good_state hb.drew).1
  clear hb KC
  go_wp2_with fail
  refine wp_region_mix (fun W => W.cell? ⟨w.heap.size, 0, none⟩ = some (.int .i64 k) ∧ W.cell? ⟨w.heap.size, 1, none⟩ = some (.int .i64 n) ∧ W.cell? ⟨w.heap.size, 2, none⟩ = some (.string s)) 9 [(true, 0), (false, 1), (true, 2), (true, 3), (true, 5), (true, 4), (true, 6), (true, 7), (true, 8)] (by kernel_rfl) (by decide +kernel) rfl (by decide +kernel) S0 ?_
  iterate 1
    refine wpMix_take (v := ?_) rfl rfl ?_ ?_
    rotate_left
    · (intro W hW; (try dsimp only at hW); go_simp) <;> with_reducible rfl
    simp only [Act.put, List.setIfInBounds_toArray, List.set_cons_zero, List.set_cons_succ]
  refine wpMix_run rfl ?_
  intro K hK
  go_wp2_with fail
  refine (KM _).mono ?_
  rintro e w2 ⟨rfl, hb2⟩
  have hb3 := good_next HB.out.drew hb2
  have HB3 := Lib.hid hb3
  have S1 := (good_state hb3).1
  clear hb2 hb3 HB
  go_wp2_with fail
  refine hK.out _ _ (fun _ => S1) ?_
  clear hK K
  iterate 1
    refine wpMix_take (v := ?_) rfl rfl ?_ ?_
    rotate_left
    · (intro W hW; (try dsimp only at hW); go_simp) <;> with_reducible rfl
    simp only [Act.put, List.setIfInBounds_toArray, List.set_cons_zero, List.set_cons_succ]
  iterate 4
    refine wpMix_skip rfl rfl ?_
    simp only [Act.put, List.setIfInBounds_toArray, List.set_cons_zero, List.set_cons_succ]
  iterate 2
    refine wpMix_take (v := ?_) rfl rfl ?_ ?_
    rotate_left
    · (intro W hW; (try dsimp only at hW); go_simp) <;> with_reducible rfl
    simp only [Act.put, List.setIfInBounds_toArray, List.set_cons_zero, List.set_cons_succ]
  refine wpMix_nil ?_
  go_wp2_with fail
  go_ret
  exact ⟨rfl, (good_state HB3.out).2⟩
/-- is it a value? -/
def goodV (k n : Int) (s : ByteArray) : Bool :=
  if k = 0 then n == 0 && s.toList == [] else if k = 1 then s.toList == [] else if k = 2 then goodW (wi n) && s.toList == [] else if k = 3 then decide (s.size ≤ 64) && n == 0 else if k = 4 then (n == 0 || n == 1) && s.toList == [] else false
theorem vgood_any (k n : Int) (s : ByteArray) (h0 : -9223372036854775808 ≤ n) (h1 : n < 9223372036854775808) (w : World) :
    Calls Tryz.prog 110 #[vv k n s] w fun e w' => e = .returned (.bool (goodV k n s)) ∧ Below w.heap.size w w' := by
  have hnil : (⟨#[]⟩ : ByteArray).toList = [] := by simp [Lib.toList_data]
  have hsw : ∀ a b : List UInt8, (a == b) = (b == a) := fun a b => by rw [Bool.eq_iff_iff, beq_iff_eq, beq_iff_eq]; exact eq_comm
  have hsi : ∀ a b : Int, (a == b) = (b == a) := fun a b => by rw [Bool.eq_iff_iff, beq_iff_eq, beq_iff_eq]; exact eq_comm
  unfold goodV
  by_cases c0 : k = 0
  · subst c0
    have := vgood_null n s true goodNull_any w
    simp only [sameV, hnil, Bool.true_and, BEq.rfl] at this
    rw [if_pos rfl, hsi n 0, hsw s.toList []]
    exact this
  by_cases c1 : k = 1
  · subst c1
    have := vgood_int n s true (goodInt_any n) w
    simp only [sameV, hnil, Bool.true_and, BEq.rfl] at this
    rw [if_neg (by decide), if_pos rfl, hsw s.toList []]
    exact this
  by_cases c2 : k = 2
  · subst c2
    have := vgood_float n s _ (goodFloat_any n h0 h1) w
    simp only [sameV, hnil, Bool.true_and, BEq.rfl] at this
    rw [if_neg (by decide), if_neg (by decide), if_pos rfl, hsw s.toList []]
    exact this
  by_cases c3 : k = 3
  · subst c3
    have := vgood_str n s _ (goodStr_any s) w
    simp only [sameV, Bool.true_and, BEq.rfl, Bool.and_true] at this
    rw [if_neg (by decide), if_neg (by decide), if_neg (by decide), if_pos rfl, hsi n 0]
    exact this
  by_cases c4 : k = 4
  · subst c4
    have := vgood_bool n s _ (goodBool_any n) w
    simp only [sameV, hnil, Bool.true_and, BEq.rfl] at this
    rw [if_neg (by decide), if_neg (by decide), if_neg (by decide), if_neg (by decide), if_pos rfl, hsw s.toList []]
    exact this
  rw [if_neg c0, if_neg c1, if_neg c2, if_neg c3, if_neg c4]
  exact vgood_other k n s (by omega) w
end Go.Proofs.YtlhpbfjelgmkeaaGreat
