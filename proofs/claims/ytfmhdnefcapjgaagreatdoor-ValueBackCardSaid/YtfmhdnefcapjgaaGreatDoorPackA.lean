/- The texts Gen ValA ValB Bits FloatOrder OrderA, one behind the other; each one's own comment says what it holds. -/
import Derived.Test.YtfmhdnefcapjgaaGreatDoorRows
import Derived.WalkKit
import Derived.WalkSpells
import Derived.WalkLawsBesides
import Derived.Lib.Hide
import Derived.Deep.Light
import Derived.Deep.RegionLaw
import Derived.Maps.OwnSet
import Derived.Sort.KeysCollected
import Derived.OneCell
import Derived.Below
import Derived.Deep.QuietTactic
import Derived.BigQuiet
import Derived.OpenShut
import Derived.Test.YtfmhdnefcapjgaaGreatDoorShelf
import Derived.Outline
import Derived.Deep.RegionHeld3
import Derived.Laws.BitsLemmas
import Derived.Laws.Bits64
import Ieee.Arith
import Derived.Laws.Externs
/- Slices in memory: what a slice holds, appends onto a row of the call's own, new rows, conversions of bytes to text. Conditions: none. -/
set_option maxRecDepth 100000
namespace Go.Proofs.YtfmhdnefcapjgaaGreatDoor
open Go.RowKit Go.Maps Go.Sort

theorem ret_bool {a b : Bool} (h : a = b) : Ending.returned (.bool a) = Ending.returned (.bool b) := by rw [h]
theorem ret_int {k : IntKind} {a b : Int} (h : a = b) : Ending.returned (.int k a) = Ending.returned (.int k b) := by rw [h]

def u8s (l : List UInt8) : List Value := l.map fun c => .int .u8 (c.toNat : Int)
def i64s (l : List Int) : List Value := l.map fun n => .int .i64 n
def u64s (l : List UInt64) : List Value := l.map fun c => .int .u64 (c.toNat : Int)
theorem u8s_len (l : List UInt8) : (u8s l).length = l.length := by simp [u8s]
theorem i64s_len (l : List Int) : (i64s l).length = l.length := by simp [i64s]
theorem u64s_len (l : List UInt64) : (u64s l).length = l.length := by simp [u64s]
theorem u8s_append (a b : List UInt8) : u8s (a ++ b) = u8s a ++ u8s b := by simp [u8s]
theorem i64s_append (a b : List Int) : i64s (a ++ b) = i64s a ++ i64s b := by simp [i64s]
theorem u64s_append (a b : List UInt64) : u64s (a ++ b) = u64s a ++ u64s b := by simp [u64s]
theorem u8s_one (l : List UInt8) : ∀ u ∈ u8s l, u.oneCell' = true := fun u hu => by
  obtain ⟨c, _, rfl⟩ := List.mem_map.1 hu
  rfl
theorem i64s_one (l : List Int) : ∀ u ∈ i64s l, u.oneCell' = true := fun u hu => by
  obtain ⟨c, _, rfl⟩ := List.mem_map.1 hu
  rfl
theorem u64s_one (l : List UInt64) : ∀ u ∈ u64s l, u.oneCell' = true := fun u hu => by
  obtain ⟨c, _, rfl⟩ := List.mem_map.1 hu
  rfl

/-- what a slice holds -/
def Holds (w : World) (v : Value) (xs : List Value) : Prop :=
  ∃ a c, v = .slice a xs.length c ∧ xs.length ≤ c ∧ ((a = none ∧ xs = [] ∧ c = 0) ∨ ∃ ad, a = some ad ∧ ∀ j u, xs[j]? = some u → w.cell? (ad.add j) = some u)

theorem Holds.form {w : World} {v : Value} {xs : List Value} (h : Holds w v xs) : ∃ a c, v = .slice a xs.length c ∧ xs.length ≤ c := by
  obtain ⟨a, c, h1, h2, _⟩ := h
  exact ⟨a, c, h1, h2⟩
theorem Holds.kept {w w' : World} {v : Value} {l : List Value} (h : Holds w v l) (hc : ∀ (a : Addr) u, w.cell? a = some u → w'.cell? a = some u) : Holds w' v l := by
  obtain ⟨a, c, h1, h2, h3⟩ := h
  refine ⟨a, c, h1, h2, ?_⟩
  rcases h3 with h3 | ⟨ad, h3, h4⟩
  · exact .inl h3
  · exact .inr ⟨ad, h3, fun j u hj => hc _ _ (h4 j u hj)⟩
theorem Holds.below {w w' : World} {v : Value} {l : List Value} (h : Holds w v l) (hb : Below w.heap.size w w') : Holds w' v l :=
  h.kept fun a u ha => by rw [hb.cell (World.block_lt_of_cell? w a ha)]; exact ha
theorem Holds.drewN {w : World} {v : Value} {l : List Value} (h : Holds w v l) (n : Nat) : Holds (w.drewN n) v l := h
theorem Addr.add_block (a : Addr) (n : Nat) : (a.add n).block = a.block := by unfold Addr.add; split <;> rfl
theorem addr_add2 (a : Addr) (i j : Nat) : (a.add i).add j = a.add (i + j) := by
  unfold Addr.add
  by_cases h1 : i = 0
  · subst h1; simp
  · by_cases h2 : j = 0
    · subst h2; simp [h1]
    · simp [h1, h2, Nat.add_assoc]
theorem Addr.add_at (b o j : Nat) : (⟨b, o, none⟩ : Addr).add j = ⟨b, o + j, none⟩ := by simp [Addr.add]

/-- the j-th cell of what a slice holds -/
theorem Holds.cell {w : World} {ad : Addr} {n c : Nat} {xs : List Value} (h : Holds w (.slice (some ad) n c) xs) {j : Nat} {u : Value} (hj : xs[j]? = some u) : w.cell? (ad.add j) = some u := by
  obtain ⟨a, c', e, _, h3⟩ := h
  rcases h3 with ⟨rfl, _, _⟩ | ⟨ad', rfl, h4⟩
  · simp at e
  · simp only [Value.slice.injEq, Option.some.injEq] at e
    rw [e.1]; exact h4 j u hj
theorem Holds.ptr {w : World} {a : Option Addr} {n c : Nat} {xs : List Value} (h : Holds w (.slice a n c) xs) (hn : 0 < n) : ∃ ad, a = some ad := by
  obtain ⟨a', c', e, _, h3⟩ := h
  rcases h3 with ⟨rfl, rfl, _⟩ | ⟨ad', rfl, h4⟩
  · simp at e; omega
  · simp only [Value.slice.injEq] at e
    exact ⟨_, e.1⟩
theorem Holds.len {w : World} {a : Option Addr} {n c : Nat} {xs : List Value} (h : Holds w (.slice a n c) xs) : xs.length = n ∧ n ≤ c := by
  obtain ⟨a', c', e, h2, _⟩ := h
  simp only [Value.slice.injEq] at e
  obtain ⟨_, rfl, rfl⟩ := e
  exact ⟨rfl, h2⟩

theorem Holds.nil (w : World) : Holds w (.slice none 0 0) [] := ⟨none, 0, rfl, Nat.le_refl _, .inl ⟨rfl, rfl, rfl⟩⟩
theorem Holds.of_row {w : World} {base : Nat} {e : TypeId} {v : Value} {xs : List Value} (h : w.ownsRow base e 1 v xs.length xs) : Holds w v xs := by
  rcases h.2 with ⟨rfl, h2⟩ | ⟨g, cap, cur, rfl, hb, hg, h2, h3, h4, h5⟩
  · have : xs = [] := List.eq_nil_of_length_eq_zero h2
    subst this
    exact ⟨none, 0, rfl, Nat.le_refl _, .inl ⟨rfl, rfl, rfl⟩⟩
  · exact ⟨some ⟨g, 0, none⟩, cap, rfl, h2, .inr ⟨_, rfl, h.cells rfl⟩⟩
theorem Holds.of_heap {w : World} {b : Nat} {e : TypeId} {c : Array Value} {fr : Nat × Nat} {l : List Value} (h : w.heap[b]? = some (.cells c e fr)) (hc : c.toList = l) (n m : Nat) (hn : n = l.length) (hm : n ≤ m) : Holds w (.slice (some ⟨b, 0, none⟩) n m) l := by
  subst hn
  refine ⟨_, _, rfl, hm, .inr ⟨_, rfl, fun j u hj => ?_⟩⟩
  rw [Addr.add_at, Nat.zero_add, cell_of_row w _ _ _ _ _ h, ← Array.getElem?_toList, hc]
  exact hj
theorem Holds.take {w : World} {a : Option Addr} {n c : Nat} {l : List Value} (h : Holds w (.slice a n c) l) (m : Nat) (hm : m ≤ n) : Holds w (.slice a m c) (l.take m) := by
  obtain ⟨a', c', e, h1, h2⟩ := h
  simp only [Value.slice.injEq] at e
  obtain ⟨rfl, rfl, rfl⟩ := e
  have hl : (l.take m).length = m := by simp; omega
  refine ⟨a, c, by rw [hl], by omega, ?_⟩
  rcases h2 with ⟨rfl, rfl, rfl⟩ | ⟨ad, rfl, h3⟩
  · exact .inl ⟨rfl, by simp, rfl⟩
  · refine .inr ⟨ad, rfl, fun j u hj => h3 j u ?_⟩
    rw [List.getElem?_take] at hj
    split at hj
    · exact hj
    · cases hj
theorem Holds.drop {w : World} {ad : Addr} {n c : Nat} {l : List Value} (h : Holds w (.slice (some ad) n c) l) (m : Nat) (hm : m ≤ n) : Holds w (.slice (some (ad.add m)) (n - m) (c - m)) (l.drop m) := by
  obtain ⟨h1, h2⟩ := h.len
  have hl : (l.drop m).length = n - m := by simp; omega
  refine ⟨_, c - m, by rw [hl], by omega, .inr ⟨_, rfl, fun j u hj => ?_⟩⟩
  rw [List.getElem?_drop] at hj
  have := h.cell hj
  rwa [← addr_add2] at this

theorem ownsRow_form {w : World} {base : Nat} {e : TypeId} {size : Nat} {v : Value} {n : Nat} {xs : List Value} (h : w.ownsRow base e size v n xs) : ∃ a cap, v = .slice a n cap ∧ n ≤ cap ∧ cap ≤ maxLen := by
  rcases h.2 with ⟨rfl, rfl⟩ | ⟨g, cap, cur, rfl, _, _, h2, h3, _⟩
  · exact ⟨none, 0, rfl, Nat.le_refl _, Nat.zero_le _⟩
  · exact ⟨_, cap, rfl, h2, h3⟩
theorem ownsRow_rebase {w : World} {A B : Nat} {e : TypeId} {v : Value} {n : Nat} {xs : List Value} (h : w.ownsRow A e 1 v n xs) (hb : ∀ g, v.ownBlock = some g → B ≤ g) : w.ownsRow B e 1 v n xs := by
  refine ⟨h.1, ?_⟩
  rcases h.2 with h2 | ⟨g, cap, cur, rfl, _, r⟩
  · exact .inl h2
  · exact .inr ⟨g, cap, cur, rfl, hb g rfl, r⟩
theorem ownsRow_of_block {base : Nat} {e : TypeId} {size : Nat} {v : Value} {n : Nat} {xs : List Value} {w w' : World} (h : w.ownsRow base e size v n xs) (hb : ∀ g, v.ownBlock = some g → w'.heap[g]? = w.heap[g]?) : w'.ownsRow base e size v n xs := by
  refine ⟨h.1, ?_⟩
  rcases h.2 with h2 | ⟨g, cap, cur, rfl, hg, hh, r⟩
  · exact .inl h2
  · exact .inr ⟨g, cap, cur, rfl, hg, by rw [hb g rfl]; exact hh, r⟩
theorem ownsRow_below {base : Nat} {e : TypeId} {size : Nat} {v : Value} {n : Nat} {xs : List Value} {w w' : World} (h : w.ownsRow base e size v n xs) (hb : Below w.heap.size w w') : w'.ownsRow base e size v n xs :=
  ownsRow_of_block h fun g hg => hb.block g (h.lt g hg).2
/-- a row that is owned above n lies above n -/
theorem ownsRow_ge {base : Nat} {e : TypeId} {size : Nat} {v : Value} {n : Nat} {xs : List Value} {w : World} (h : w.ownsRow base e size v n xs) : ∀ g, v.ownBlock = some g → base ≤ g := fun g hg => (h.lt g hg).1

theorem alloc1 (w : World) (A : Obj) : (w.alloc A).heap[w.heap.size]? = some A := heap_alloc_new w A
theorem free_of_row {w : World} {g : Nat} {cs : Array Value} {t : TypeId} (h : w.heap[g]? = some (.cells cs t (0, 0))) (j : Nat) : w.frozen? ⟨g, j, none⟩ = false := by
  simp [World.frozen?, h]
theorem heap_set {w : World} {g j : Nat} {cs : Array Value} {t : TypeId} {fr : Nat × Nat} (h : w.heap[g]? = some (.cells cs t fr)) (v : Value) : (w.setCell ⟨g, j, none⟩ v).heap[g]? = some (.cells (cs.setIfInBounds j v) t fr) := by
  simp [World.setCell, Array.getElem?_modify, h]

section
variable {P : Program} (w : World)

/-- append of m elements of one cell each, from an address -/
theorem append_own (B : Nat) (t ty e : TypeId) (i : TypeInfo) (z : Value) (ht : P.underlying t = some (.slice e)) (hi : P.info? e = some i) (hz : i.zero = some z) (hsize : i.size = 1) (hby : i.bytes ≤ 8) (hzs : z.cells.size = 1)
    (v : Value) (n : Nat) (xs : List Value) (hown : w.ownsRow B e 1 v n xs) (hB : B ≤ w.heap.size)
    (a : Addr) (m c : Nat) (news : List Value) (hl : news.length = m) (hnews : ∀ j u, news[j]? = some u → w.cell? (a.add j) = some u) (h1 : ∀ u ∈ news, u.oneCell' = true)
    (hbytes : (n + m) * 8 ≤ 140737488355328) :
    ∃ v' w', (Builtin.append_ #[t, t] ty #[v, .slice (some a) m c]).run P w = .ok v' w' ∧ w'.ownsRow B e 1 v' (n + m) (xs ++ news) ∧ w.grownBy w' v.ownBlock ∧
      (v'.ownBlock = v.ownBlock ∨ v'.ownBlock = some w.heap.size) := by
  have hl1 : news.length = m * i.size := by rw [hsize, Nat.mul_one]; exact hl
  have hbb : (n + m) * i.bytes ≤ 140737488355328 := Nat.le_trans (Nat.mul_le_mul_left _ hby) hbytes
  have h63 : n + m ≤ maxLen := by unfold maxLen; omega
  obtain ⟨v', w', hr, h2, h3, _⟩ := run_append_own (P := P) w B t ty e i z 1 i.bytes ht hi hz hsize rfl hzs (by omega) v n xs hown a m c news (by omega) hnews h1 h63 hbb hB
  refine ⟨v', w', hr, h2, h3, ?_⟩
  rcases hown.2 with ⟨rfl, rfl⟩ | ⟨g, cap, cur, rfl, _, hg, hnc, hcm, hcs, htake⟩
  · by_cases hm : m = 0
    · subst hm
      have h4 := h2.2
      rcases h4 with ⟨rfl, _⟩ | ⟨g', cap', cur', rfl, _, _, _⟩
      · exact .inl rfl
      · have hr2 : (Builtin.append_ #[t, t] ty #[.slice none 0 0, .slice (some a) 0 c]).run P w = .ok (.slice none 0 0) w := by
          simp [Builtin.append_, run_underlying ht, sizeOf, typeInfo, hi, Builtin.lenOf, Builtin.firstCells, loadCells, loadCellsFrom]
        rw [hr2] at hr
        simp at hr
    · have hr2 := run_append_nil (P := P) w t ty e i z ht hi hz a m c news hl1 hnews (by omega) (by omega) (by have hb := hbb; rw [Nat.zero_add] at hb; omega)
      rw [hr2] at hr
      simp only [Result.ok.injEq] at hr
      exact .inr (by rw [← hr.1]; rfl)
  · by_cases hroom : n + m ≤ cap
    · have hr2 := run_append_room (P := P) w t ty e i ht hi g n cap cur hg a m c news hl1 hnews h1 hroom (by rw [hsize]; omega)
      rw [hr2] at hr
      simp only [Result.ok.injEq] at hr
      exact .inl (by rw [← hr.1]; rfl)
    · have holds : ∀ j u, xs[j]? = some u → w.cell? ((⟨g, 0, none⟩ : Addr).add j) = some u := hown.cells (g := g) rfl
      have hr2 := run_append_grow (P := P) w t ty e i z ht hi hz ⟨g, 0, none⟩ n cap xs (by rw [hsize]; exact hown.1) holds a m c news hl1 hnews (by omega) (by omega) (growslice_fits (by omega) hbb)
      rw [hr2] at hr
      simp only [Result.ok.injEq] at hr
      exact .inr (by rw [← hr.1]; rfl)

/-- append of a nil slice -/
theorem append_nilsrc (t ty e : TypeId) (i : TypeInfo) (ht : P.underlying t = some (.slice e)) (hi : P.info? e = some i) (b : Option Addr) (n cap c : Nat) (hn : n ≤ cap) :
    (Builtin.append_ #[t, t] ty #[.slice b n cap, .slice none 0 c]).run P w = .ok (.slice b n cap) w := by
  cases b <;> simp [Builtin.append_, run_underlying ht, sizeOf, typeInfo, hi, Builtin.lenOf, Builtin.firstCells, hn, storeCells]
end

/-- append onto a row of the call's own -/
theorem app_any {P : Program} {t e : TypeId} {z : Value} {by' : Nat} (ht : P.underlying t = some (.slice e)) (hinfo : (P.info? e).map (fun i => (i.zero, i.size, i.bytes)) = some (some z, 1, by')) (hby : by' ≤ 8) (hzs : z.cells.size = 1)
    {w : World} {B : Nat} {v : Value} {xs : List Value} (hown : w.ownsRow B e 1 v xs.length xs) (hB : B ≤ w.heap.size) {sv : Value} {l : List Value} (hs : Holds w sv l) (h1 : ∀ u ∈ l, u.oneCell' = true) (hlen : xs.length + l.length ≤ 17592186044416) :
    ∃ v' w', (∀ ty, (Builtin.append_ #[t, t] ty #[v, sv]).run P w = .ok v' w') ∧ w'.ownsRow B e 1 v' (xs ++ l).length (xs ++ l) ∧ w.grownBy w' v.ownBlock ∧ (v'.ownBlock = v.ownBlock ∨ v'.ownBlock = some w.heap.size) := by
  obtain ⟨i, hi, hz0, hz1, hz2⟩ := info_parts hinfo
  obtain ⟨a, c, rfl, hc, hcase⟩ := hs
  rcases hcase with ⟨rfl, rfl, rfl⟩ | ⟨ad, rfl, hcell⟩
  · obtain ⟨b, cap, rfl, hn, _⟩ := ownsRow_form hown
    refine ⟨_, w, fun ty => append_nilsrc w _ ty _ i ht hi b _ cap 0 hn, by simpa using hown, ⟨rfl, rfl, rfl, Nat.le_refl _, fun _ _ _ => rfl⟩, .inl rfl⟩
  · obtain ⟨v', w', hr, h2, h3, h4⟩ := append_own (P := P) w B t 0 e i z ht hi hz0 hz1 (by rw [hz2]; exact hby) hzs v xs.length xs hown hB ad l.length c l rfl hcell h1 (by omega)
    refine ⟨v', w', fun ty => ?_, ?_, h3, h4⟩
    · exact hr
    · rw [List.length_append]; exact h2

theorem wpList_append_run {P : Program} {w w' : World} {ops : Array Oper} {rest : List Oper} {o : Oper} {a : Act} {Q : Exit → Act → World → Prop} {sv xv v' : Value} (hgd : o.guard = none) (s x : Operand) (t : TypeId)
    (hop : o.op = .call { callee := .builtin .append, args := #[s, x], argTypes := #[t, t] }) (hs : a.eval s = sv) (hx : a.eval x = xv) (hrun : (Builtin.append_ #[t, t] o.type #[sv, xv]).run P w = .ok v' w')
    (hK : wpList P ops Q rest (a.put o.dst v') w') : wpList P ops Q (o :: rest) a w := by
  refine wpList_plain hgd fun K hKK => ?_
  unfold Oper.wp
  simp [execOp, hop, resolve, invoke, builtin, hs, hx, hrun, Result.andThen]
  exact hKK _ _ hK

/-- append as one step of a region that draws, guarded or not, its run being known -/
theorem step_append_want {P : Program} {ops : Array Oper} {o : Oper} {a : Act} {w w' : World} {K : Act → World → Prop} {Q : Exit → Act → World → Prop} {E : Prop} {sv xv v' : Value}
    (hw : Region.wanted o (yielded ops a.tmps) = true) (s x : Operand) (t : TypeId) (hop : o.op = Op.call { callee := Callee.builtin Builtin.append, args := #[s, x], argTypes := #[t, t] }) (hs : a.eval s = sv) (hx : a.eval x = xv)
    (hrun : (Builtin.append_ #[t, t] o.type #[sv, xv]).run P w = .ok v' w') (hK : K (a.put o.dst v') w') :
    if Region.wanted o (yielded ops a.tmps) = true then Oper.wp P o a w K Q else E := by
  rw [if_pos hw]
  unfold Oper.wp
  simp [execOp, hop, resolve, invoke, builtin, hs, hx, hrun, Result.andThen]
  exact hK
theorem step_append_run {P : Program} {ops : Array Oper} {o : Oper} {a : Act} {w w' : World} {K : Act → World → Prop} {Q : Exit → Act → World → Prop} {E : Prop} {sv xv v' : Value}
    (hg : o.guard = none) (s x : Operand) (t : TypeId) (hop : o.op = Op.call { callee := Callee.builtin Builtin.append, args := #[s, x], argTypes := #[t, t] }) (hs : a.eval s = sv) (hx : a.eval x = xv)
    (hrun : (Builtin.append_ #[t, t] o.type #[sv, xv]).run P w = .ok v' w') (hK : K (a.put o.dst v') w') :
    if Region.wanted o (yielded ops a.tmps) = true then Oper.wp P o a w K Q else E :=
  step_append_want (by simp [Region.wanted, hg]) s x t hop hs hx hrun hK

theorem freeze_new (w : World) (c : Array Value) (t : TypeId) (m : Nat) : (w.alloc (.cells c t)).freeze ⟨w.heap.size, m, none⟩ 1 = w.alloc (.cells c t (m, m + 1)) := by
  unfold World.freeze
  rw [if_neg (by omega)]
  have : (w.heap.push (.cells c t)).modify w.heap.size (fun
      | .cells c elem (lo, hi) => .cells c elem (if lo == hi then (m, m + 1) else (min lo m, max hi (m + 1)))
      | o => o) = w.heap.push (.cells c t (m, m + 1)) := by
    apply Array.ext_getElem?
    intro i
    simp only [Array.getElem?_modify, Array.getElem?_push]
    by_cases h : w.heap.size = i
    · subst h; simp
    · have h' : ¬ i = w.heap.size := fun e => h e.symm
      simp [h, h']
  show ({ w with heap := _ } : World) = { w with heap := _ }
  rw [← this]
  rfl

theorem below_grown {w w' : World} {o : Option Nat} {B : Nat} (h : w.grownBy w' o) (hB : B ≤ w.heap.size) (ho : ∀ g, o = some g → B ≤ g) : Below B w w' :=
  ⟨h.os, h.tape, h.output, h.size, fun k hk => h.block k (by omega) (fun e => by have := ho k e.symm; omega)⟩

/-- the bytes of a slice as a text -/
theorem str_of_holds {P : Program} {tb te ts : TypeId} (hb : P.underlying tb = some (.slice te)) (he : P.underlying te = some (.int .u8)) (hs : P.underlying ts = some .string) {w : World} {v : Value} {l : List UInt8} (h : Holds w v (u8s l)) :
    (convert tb ts v).run P w = .ok (.string ⟨l.toArray⟩) w := by
  obtain ⟨a, c, rfl, _, h2⟩ := h
  rw [u8s_len]
  rcases h2 with ⟨rfl, h3, rfl⟩ | ⟨ad, rfl, hc⟩
  · have : l = [] := by cases l with
      | nil => rfl
      | cons x y => simp [u8s] at h3
    subst this
    exact run_convert_bytes_nil w _ _ hb he 0 0 _ hs
  · have hl : (loadCells ad l.length).run P w = .ok ((l.map fun c => (c.toNat : Int)).map (Value.int .u8)).toArray w := by
      have := run_loadCells_list (P := P) w ad (u8s l) hc
      simpa [u8s, List.map_map, Function.comp_def] using this
    rw [run_convert_bytes_string w _ _ _ _ _ _ hb he hs, run_bytesToString w _ _ _ _ hl, foldl_push_bytes]
    congr 2
    have e : (List.map (fun n : Int => UInt8.ofNat n.toNat) (List.map (fun c : UInt8 => (c.toNat : Int)) l)) = l := by
      rw [List.map_map]
      conv => rhs; rw [← List.map_id l]
      apply List.map_congr_left
      intro c _
      simp
    rw [e]
    apply ByteArray.ext
    simp [ByteArray.empty, ByteArray.emptyWithCapacity]
    rfl

/-- what is known of a slice of integers that came in -/
def IsRow (k : IntKind) (w : World) (a : Option Addr) (len cap : Nat) (zs : List Int) : Prop :=
  (a = none ∧ len = 0 ∧ cap = 0 ∧ zs = []) ∨
  ∃ x, a = some x ∧ len ≤ cap ∧ cap ≤ maxLen ∧ zs.length = cap ∧ (∀ i, i < zs.length → w.cell? (x.add i) = some (.int k (zs.getD i 0))) ∧ ∀ n ∈ zs, (Lit.int k n).wf = true

/-- a slice of integers that came in: the values -/
theorem isRow_vals {k : IntKind} {w : World} {a : Option Addr} {len cap : Nat} {zs : List Int} (h : IsRow k w a len cap zs) : ∃ l : List Int, l.length = len ∧ Holds w (.slice a len cap) (l.map (Value.int k)) ∧ (∀ n ∈ l, (Lit.int k n).wf = true) ∧
    ∀ (ad : Addr) (n c : Nat), Value.slice a len cap = .slice (some ad) n c → n ≠ 0 → ad.block < w.heap.size := by
  rcases h with ⟨rfl, rfl, rfl, rfl⟩ | ⟨x, rfl, h1, h2, h3, h4, h5⟩
  · exact ⟨[], rfl, Holds.nil w, fun n hn => by simp at hn, fun ad n c e => by simp at e⟩
  · have hlen : (zs.take len).length = len := by simp; omega
    have hc : ∀ i, i < len → w.cell? (x.add i) = some (.int k (zs.getD i 0)) := fun i hi => h4 i (by omega)
    refine ⟨zs.take len, hlen, ⟨some x, cap, by rw [List.length_map, hlen], by rw [List.length_map, hlen]; omega, .inr ⟨x, rfl, fun j u hj => ?_⟩⟩, fun n hn => h5 n (List.mem_of_mem_take hn), fun ad n c e hn => ?_⟩
    · rw [List.getElem?_map, List.getElem?_take] at hj
      have hj2 : j < len := by
        rcases Nat.lt_or_ge j len with g | g
        · exact g
        · rw [if_neg (by omega)] at hj; simp at hj
      rw [if_pos hj2, List.getElem?_eq_getElem (by omega)] at hj
      rw [hc j hj2, List.getD_eq_getElem?_getD, List.getElem?_eq_getElem (by omega)]
      simpa using hj
    · simp only [Value.slice.injEq, Option.some.injEq] at e
      obtain ⟨rfl, rfl, _⟩ := e
      have := World.block_lt_of_cell? w _ (hc 0 (by omega))
      rwa [Addr.add_block] at this
theorem bounds_of_u8 {n : Int} (h : (Lit.int .u8 n).wf = true) : 0 ≤ n ∧ n < 256 := by have := bounds_u8 h; omega
theorem bounds_of_u64 {n : Int} (h : (Lit.int .u64 n).wf = true) : 0 ≤ n ∧ n < 18446744073709551616 := by have := bounds_u64 h; omega
theorem bounds_of_i64 {n : Int} (h : (Lit.int .i64 n).wf = true) : -9223372036854775808 ≤ n ∧ n < 9223372036854775808 := by have := bounds_i64 h; omega
theorem vals_u8 {l : List Int} (h : ∀ n ∈ l, (Lit.int .u8 n).wf = true) : ∃ m : List UInt8, l.map (Value.int .u8) = u8s m ∧ m.length = l.length := by
  refine ⟨l.map fun n => UInt8.ofNat n.toNat, ?_, by simp⟩
  unfold u8s
  rw [List.map_map]
  apply List.map_congr_left
  intro n hn
  have := bounds_of_u8 (h n hn)
  simp
  omega
theorem vals_u64 {l : List Int} (h : ∀ n ∈ l, (Lit.int .u64 n).wf = true) : ∃ m : List UInt64, l.map (Value.int .u64) = u64s m ∧ m.length = l.length := by
  refine ⟨l.map fun n => UInt64.ofNat n.toNat, ?_, by simp⟩
  unfold u64s
  rw [List.map_map]
  apply List.map_congr_left
  intro n hn
  have := bounds_of_u64 (h n hn)
  simp
  omega
theorem isRow_u8 {w : World} {a : Option Addr} {len cap : Nat} {zs : List Int} (h : IsRow .u8 w a len cap zs) : ∃ l : List UInt8, l.length = len ∧ Holds w (.slice a len cap) (u8s l) ∧ ∀ (ad : Addr) (n c : Nat), Value.slice a len cap = .slice (some ad) n c → n ≠ 0 → ad.block < w.heap.size := by
  obtain ⟨l, h1, h2, h3, h4⟩ := isRow_vals h
  obtain ⟨m, e1, e2⟩ := vals_u8 h3
  exact ⟨m, by omega, e1 ▸ h2, h4⟩
theorem isRow_u64 {w : World} {a : Option Addr} {len cap : Nat} {zs : List Int} (h : IsRow .u64 w a len cap zs) : ∃ l : List UInt64, l.length = len ∧ Holds w (.slice a len cap) (u64s l) ∧ ∀ (ad : Addr) (n c : Nat), Value.slice a len cap = .slice (some ad) n c → n ≠ 0 → ad.block < w.heap.size := by
  obtain ⟨l, h1, h2, h3, h4⟩ := isRow_vals h
  obtain ⟨m, e1, e2⟩ := vals_u64 h3
  exact ⟨m, by omega, e1 ▸ h2, h4⟩
theorem isRow_i64 {w : World} {a : Option Addr} {len cap : Nat} {zs : List Int} (h : IsRow .i64 w a len cap zs) : ∃ l : List Int, l.length = len ∧ Holds w (.slice a len cap) (i64s l) ∧ (∀ n ∈ l, -9223372036854775808 ≤ n ∧ n < 9223372036854775808) ∧ ∀ (ad : Addr) (n c : Nat), Value.slice a len cap = .slice (some ad) n c → n ≠ 0 → ad.block < w.heap.size := by
  obtain ⟨l, h1, h2, h3, h4⟩ := isRow_vals h
  exact ⟨l, h1, h2, fun n hn => bounds_of_i64 (h3 n hn), h4⟩
end Go.Proofs.YtfmhdnefcapjgaaGreatDoor
/- Values of rows: what contentOf and valueOf tell, a kind at a time. Conditions: none. -/
set_option maxRecDepth 100000
namespace Go.Proofs.YtfmhdnefcapjgaaGreatDoor
open Go.RowKit

abbrev vv (k n : Int) (s : ByteArray) : Value := .agg #[.int .i64 k, .int .i64 n, .string s]
/-- what a value says -/
def ctV (k n : Int) (s : ByteArray) : Value :=
  if k = 0 then .iface 51 (.agg #[]) else if k = 1 then .iface 55 (.int .i64 n) else if k = 2 then .iface 52 (.int .i64 n)
  else if k = 3 then .iface 53 (.string s) else if k = 4 then .iface 56 (.int .i64 n) else .iface 57 (.int .i64 n)

theorem content_null (n : Int) (s : ByteArray) (w : World) : Calls Tryz.prog 14 #[vv 0 n s] w fun e w' => e = .returned (.iface 51 (.agg #[])) ∧ Below w.heap.size w w' := by
  go_enter Tryz.func14, Tryz.ntmps14
  go_wp2_with fail
  go_ret
  exact ⟨rfl, (Below.refl _ _).alloc (Nat.le_refl _) _⟩
theorem content_int (n : Int) (s : ByteArray) (w : World) : Calls Tryz.prog 14 #[vv 1 n s] w fun e w' => e = .returned (.iface 55 (.int .i64 n)) ∧ Below w.heap.size w w' := by
  go_enter Tryz.func14, Tryz.ntmps14
  go_wp2_with fail
  go_ret
  exact ⟨rfl, (Below.refl _ _).alloc (Nat.le_refl _) _⟩
theorem content_float (n : Int) (s : ByteArray) (w : World) : Calls Tryz.prog 14 #[vv 2 n s] w fun e w' => e = .returned (.iface 52 (.int .i64 n)) ∧ Below w.heap.size w w' := by
  go_enter Tryz.func14, Tryz.ntmps14
  go_wp2_with fail
  go_ret
  exact ⟨rfl, (Below.refl _ _).alloc (Nat.le_refl _) _⟩
theorem content_str (n : Int) (s : ByteArray) (w : World) : Calls Tryz.prog 14 #[vv 3 n s] w fun e w' => e = .returned (.iface 53 (.string s)) ∧ Below w.heap.size w w' := by
  go_enter Tryz.func14, Tryz.ntmps14
  go_wp2_with fail
  go_ret
  exact ⟨rfl, (Below.refl _ _).alloc (Nat.le_refl _) _⟩
theorem content_bool (n : Int) (s : ByteArray) (w : World) : Calls Tryz.prog 14 #[vv 4 n s] w fun e w' => e = .returned (.iface 56 (.int .i64 n)) ∧ Below w.heap.size w w' := by
  go_enter Tryz.func14, Tryz.ntmps14
  go_wp2_with fail
  go_ret
  exact ⟨rfl, (Below.refl _ _).alloc (Nat.le_refl _) _⟩
theorem content_other (k n : Int) (s : ByteArray) (w : World) (h : k < 0 ∨ 4 < k) : Calls Tryz.prog 14 #[vv k n s] w fun e w' => e = .returned (.iface 57 (.int .i64 n)) ∧ Below w.heap.size w w' := by
  have h0 : (k == 0) = false := by rw [beq_eq_false_iff_ne]; omega
  have h1 : (k == 1) = false := by rw [beq_eq_false_iff_ne]; omega
  have h2 : (k == 2) = false := by rw [beq_eq_false_iff_ne]; omega
  have h3 : (k == 3) = false := by rw [beq_eq_false_iff_ne]; omega
  have h4 : (k == 4) = false := by rw [beq_eq_false_iff_ne]; omega
  clear h
  go_enter Tryz.func14, Tryz.ntmps14
  go_wp2_with fail
  go_ret
  exact ⟨rfl, (Below.refl _ _).alloc (Nat.le_refl _) _⟩
theorem content_any (k n : Int) (s : ByteArray) (w : World) : Calls Tryz.prog 14 #[vv k n s] w fun e w' => e = .returned (ctV k n s) ∧ Below w.heap.size w w' := by
  by_cases h0 : k = 0
  · subst h0; exact content_null n s w
  by_cases h1 : k = 1
  · subst h1; exact content_int n s w
  by_cases h2 : k = 2
  · subst h2; exact content_float n s w
  by_cases h3 : k = 3
  · subst h3; exact content_str n s w
  by_cases h4 : k = 4
  · subst h4; exact content_bool n s w
  have e : ctV k n s = .iface 57 (.int .i64 n) := by unfold ctV; rw [if_neg h0, if_neg h1, if_neg h2, if_neg h3, if_neg h4]
  rw [e]
  exact content_other k n s w (by omega)
end Go.Proofs.YtfmhdnefcapjgaaGreatDoor
/- Values of rows: valueOf, logic of three truths, Of, on both sides. Conditions: none. -/
set_option maxRecDepth 100000
namespace Go.Proofs.YtfmhdnefcapjgaaGreatDoor
open Go.RowKit Go.Lib

theorem as_nothing_nothing (v : Value) (w : World) : (Instr.typeAssert (.iface 51 v) 40 51 true).run Tryz.prog w = .ok (.tuple #[v, .bool true]) w := by kernel_rfl
theorem as_nothing_whole (v : Value) (w : World) : (Instr.typeAssert (.iface 51 v) 40 55 true).run Tryz.prog w = .ok (.tuple #[.int .i64 0, .bool false]) w := by kernel_rfl
theorem as_nothing_float (v : Value) (w : World) : (Instr.typeAssert (.iface 51 v) 40 52 true).run Tryz.prog w = .ok (.tuple #[.int .i64 0, .bool false]) w := by kernel_rfl
theorem as_nothing_str (v : Value) (w : World) : (Instr.typeAssert (.iface 51 v) 40 53 true).run Tryz.prog w = .ok (.tuple #[.string ⟨#[]⟩, .bool false]) w := by kernel_rfl
theorem as_nothing_truth (v : Value) (w : World) : (Instr.typeAssert (.iface 51 v) 40 56 true).run Tryz.prog w = .ok (.tuple #[.int .i64 0, .bool false]) w := by kernel_rfl
theorem as_whole_nothing (v : Value) (w : World) : (Instr.typeAssert (.iface 55 v) 40 51 true).run Tryz.prog w = .ok (.tuple #[.agg #[], .bool false]) w := by kernel_rfl
theorem as_whole_whole (v : Value) (w : World) : (Instr.typeAssert (.iface 55 v) 40 55 true).run Tryz.prog w = .ok (.tuple #[v, .bool true]) w := by kernel_rfl
theorem as_whole_float (v : Value) (w : World) : (Instr.typeAssert (.iface 55 v) 40 52 true).run Tryz.prog w = .ok (.tuple #[.int .i64 0, .bool false]) w := by kernel_rfl
theorem as_whole_str (v : Value) (w : World) : (Instr.typeAssert (.iface 55 v) 40 53 true).run Tryz.prog w = .ok (.tuple #[.string ⟨#[]⟩, .bool false]) w := by kernel_rfl
theorem as_whole_truth (v : Value) (w : World) : (Instr.typeAssert (.iface 55 v) 40 56 true).run Tryz.prog w = .ok (.tuple #[.int .i64 0, .bool false]) w := by kernel_rfl
theorem as_float_nothing (v : Value) (w : World) : (Instr.typeAssert (.iface 52 v) 40 51 true).run Tryz.prog w = .ok (.tuple #[.agg #[], .bool false]) w := by kernel_rfl
theorem as_float_whole (v : Value) (w : World) : (Instr.typeAssert (.iface 52 v) 40 55 true).run Tryz.prog w = .ok (.tuple #[.int .i64 0, .bool false]) w := by kernel_rfl
theorem as_float_float (v : Value) (w : World) : (Instr.typeAssert (.iface 52 v) 40 52 true).run Tryz.prog w = .ok (.tuple #[v, .bool true]) w := by kernel_rfl
theorem as_float_str (v : Value) (w : World) : (Instr.typeAssert (.iface 52 v) 40 53 true).run Tryz.prog w = .ok (.tuple #[.string ⟨#[]⟩, .bool false]) w := by kernel_rfl
theorem as_float_truth (v : Value) (w : World) : (Instr.typeAssert (.iface 52 v) 40 56 true).run Tryz.prog w = .ok (.tuple #[.int .i64 0, .bool false]) w := by kernel_rfl
theorem as_str_nothing (v : Value) (w : World) : (Instr.typeAssert (.iface 53 v) 40 51 true).run Tryz.prog w = .ok (.tuple #[.agg #[], .bool false]) w := by kernel_rfl
theorem as_str_whole (v : Value) (w : World) : (Instr.typeAssert (.iface 53 v) 40 55 true).run Tryz.prog w = .ok (.tuple #[.int .i64 0, .bool false]) w := by kernel_rfl
theorem as_str_float (v : Value) (w : World) : (Instr.typeAssert (.iface 53 v) 40 52 true).run Tryz.prog w = .ok (.tuple #[.int .i64 0, .bool false]) w := by kernel_rfl
theorem as_str_str (v : Value) (w : World) : (Instr.typeAssert (.iface 53 v) 40 53 true).run Tryz.prog w = .ok (.tuple #[v, .bool true]) w := by kernel_rfl
theorem as_str_truth (v : Value) (w : World) : (Instr.typeAssert (.iface 53 v) 40 56 true).run Tryz.prog w = .ok (.tuple #[.int .i64 0, .bool false]) w := by kernel_rfl
theorem as_truth_nothing (v : Value) (w : World) : (Instr.typeAssert (.iface 56 v) 40 51 true).run Tryz.prog w = .ok (.tuple #[.agg #[], .bool false]) w := by kernel_rfl
theorem as_truth_whole (v : Value) (w : World) : (Instr.typeAssert (.iface 56 v) 40 55 true).run Tryz.prog w = .ok (.tuple #[.int .i64 0, .bool false]) w := by kernel_rfl
theorem as_truth_float (v : Value) (w : World) : (Instr.typeAssert (.iface 56 v) 40 52 true).run Tryz.prog w = .ok (.tuple #[.int .i64 0, .bool false]) w := by kernel_rfl
theorem as_truth_str (v : Value) (w : World) : (Instr.typeAssert (.iface 56 v) 40 53 true).run Tryz.prog w = .ok (.tuple #[.string ⟨#[]⟩, .bool false]) w := by kernel_rfl
theorem as_truth_truth (v : Value) (w : World) : (Instr.typeAssert (.iface 56 v) 40 56 true).run Tryz.prog w = .ok (.tuple #[v, .bool true]) w := by kernel_rfl
theorem as_other_nothing (v : Value) (w : World) : (Instr.typeAssert (.iface 57 v) 40 51 true).run Tryz.prog w = .ok (.tuple #[.agg #[], .bool false]) w := by kernel_rfl
theorem as_other_whole (v : Value) (w : World) : (Instr.typeAssert (.iface 57 v) 40 55 true).run Tryz.prog w = .ok (.tuple #[.int .i64 0, .bool false]) w := by kernel_rfl
theorem as_other_float (v : Value) (w : World) : (Instr.typeAssert (.iface 57 v) 40 52 true).run Tryz.prog w = .ok (.tuple #[.int .i64 0, .bool false]) w := by kernel_rfl
theorem as_other_str (v : Value) (w : World) : (Instr.typeAssert (.iface 57 v) 40 53 true).run Tryz.prog w = .ok (.tuple #[.string ⟨#[]⟩, .bool false]) w := by kernel_rfl
theorem as_other_truth (v : Value) (w : World) : (Instr.typeAssert (.iface 57 v) 40 56 true).run Tryz.prog w = .ok (.tuple #[.int .i64 0, .bool false]) w := by kernel_rfl
theorem of_truth (n : Int) (w : World) : Calls Tryz.prog 15 #[.iface 56 (.int .i64 n)] w fun e w' => e = .returned (vv 4 n ⟨#[]⟩) ∧ Below w.heap.size w w' := by
  have q0 := as_truth_whole
  have q1 := as_truth_float
  have q2 := as_truth_str
  have q3 := as_truth_truth
  go_enter Tryz.func15, Tryz.ntmps15
  go_wp2_with fail
  refine bodyPost_ret (v := vv 4 n ⟨#[]⟩) ?_ rfl ⟨rfl, ?_⟩
  · simp [results, Tryz.results15, go_sem]
  · exact (Below.refl _ _).alloc (Nat.le_refl _) _
theorem of_int (n : Int) (w : World) : Calls Tryz.prog 15 #[.iface 55 (.int .i64 n)] w fun e w' => e = .returned (vv 1 n ⟨#[]⟩) ∧ Below w.heap.size w w' := by
  have q0 := as_whole_whole
  have q1 := as_whole_float
  have q2 := as_whole_str
  have q3 := as_whole_truth
  go_enter Tryz.func15, Tryz.ntmps15
  go_wp2_with fail
  refine bodyPost_ret (v := vv 1 n ⟨#[]⟩) ?_ rfl ⟨rfl, ?_⟩
  · simp [results, Tryz.results15, go_sem]
  · exact (Below.refl _ _).alloc (Nat.le_refl _) _
theorem of_float (n : Int) (w : World) : Calls Tryz.prog 15 #[.iface 52 (.int .i64 n)] w fun e w' => e = .returned (vv 2 n ⟨#[]⟩) ∧ Below w.heap.size w w' := by
  have q0 := as_float_whole
  have q1 := as_float_float
  have q2 := as_float_str
  have q3 := as_float_truth
  go_enter Tryz.func15, Tryz.ntmps15
  go_wp2_with fail
  refine bodyPost_ret (v := vv 2 n ⟨#[]⟩) ?_ rfl ⟨rfl, ?_⟩
  · simp [results, Tryz.results15, go_sem]
  · exact (Below.refl _ _).alloc (Nat.le_refl _) _
theorem of_str (s : ByteArray) (w : World) : Calls Tryz.prog 15 #[.iface 53 (.string s)] w fun e w' => e = .returned (vv 3 0 s) ∧ Below w.heap.size w w' := by
  have q0 := as_str_whole
  have q1 := as_str_float
  have q2 := as_str_str
  have q3 := as_str_truth
  go_enter Tryz.func15, Tryz.ntmps15
  go_wp2_with fail
  refine bodyPost_ret (v := vv 3 0 s) ?_ rfl ⟨rfl, ?_⟩
  · simp [results, Tryz.results15, go_sem]
  · exact (Below.refl _ _).alloc (Nat.le_refl _) _
theorem of_null (w : World) : Calls Tryz.prog 15 #[.iface 51 (.agg #[])] w fun e w' => e = .returned (vv 0 0 ⟨#[]⟩) ∧ Below w.heap.size w w' := by
  have q0 := as_nothing_whole
  have q1 := as_nothing_float
  have q2 := as_nothing_str
  have q3 := as_nothing_truth
  go_enter Tryz.func15, Tryz.ntmps15
  go_wp2_with fail
  refine bodyPost_ret (v := vv 0 0 ⟨#[]⟩) ?_ rfl ⟨rfl, ?_⟩
  · simp [results, Tryz.results15, go_sem]
  · exact (Below.refl _ _).alloc (Nat.le_refl _) _
theorem of_other (n : Int) (w : World) : Calls Tryz.prog 15 #[.iface 57 (.int .i64 n)] w fun e w' => e = .returned (vv 0 0 ⟨#[]⟩) ∧ Below w.heap.size w w' := by
  have q0 := as_other_whole
  have q1 := as_other_float
  have q2 := as_other_str
  have q3 := as_other_truth
  go_enter Tryz.func15, Tryz.ntmps15
  go_wp2_with fail
  refine bodyPost_ret (v := vv 0 0 ⟨#[]⟩) ?_ rfl ⟨rfl, ?_⟩
  · simp [results, Tryz.results15, go_sem]
  · exact (Below.refl _ _).alloc (Nat.le_refl _) _

def andV (a b : Int) : Int := if a = 0 ∨ b = 0 then 0 else if a < 0 ∨ b < 0 then -1 else 1
def orV (a b : Int) : Int := if 0 < a ∨ 0 < b then 1 else if a < 0 ∨ b < 0 then -1 else 0
def notV (a : Int) : Int := if a < 0 then -1 else if a = 0 then 1 else 0
theorem sign3 (a : Int) : ((a == 0) = true ∧ decide (a < 0) = false ∧ decide (0 < a) = false ∧ Hid (a = 0)) ∨ ((a == 0) = false ∧ decide (a < 0) = true ∧ decide (0 < a) = false ∧ Hid (a < 0)) ∨ ((a == 0) = false ∧ decide (a < 0) = false ∧ decide (0 < a) = true ∧ Hid (0 < a)) := by
  rcases Int.lt_trichotomy a 0 with h | h | h
  · exact .inr (.inl ⟨by rw [beq_eq_false_iff_ne]; omega, decide_eq_true h, decide_eq_false (by omega), Lib.hid h⟩)
  · exact .inl ⟨by rw [beq_iff_eq]; exact h, decide_eq_false (by omega), decide_eq_false (by omega), Lib.hid h⟩
  · exact .inr (.inr ⟨by rw [beq_eq_false_iff_ne]; omega, decide_eq_false (by omega), decide_eq_true h, Lib.hid h⟩)
theorem and_any (a b : Int) (w : World) : Calls Tryz.prog 11 #[.int .i64 a, .int .i64 b] w fun e w' => e = .returned (.int .i64 (andV a b)) ∧ w' = w := by
  obtain ⟨R, hR⟩ : ∃ R, Hid (R = andV a b) := ⟨_, Lib.hid rfl⟩
  rw [← hR.out]
  rcases sign3 a with ⟨a0, a1, a2, ha⟩ | ⟨a0, a1, a2, ha⟩ | ⟨a0, a1, a2, ha⟩ <;> rcases sign3 b with ⟨b0, b1, b2, hb⟩ | ⟨b0, b1, b2, hb⟩ | ⟨b0, b1, b2, hb⟩
  all_goals (
    go_enter Tryz.func11, Tryz.ntmps11
    go_wp2_with fail
    go_ret
    refine ⟨ret_int ?_, rfl⟩
    have h1 := hR.out
    have h2 := ha.out
    have h3 := hb.out
    clear a0 a1 a2 b0 b1 b2 hR ha hb
    rw [h1]
    unfold andV
    first | (rw [if_pos (by omega)]) | (rw [if_neg (by omega), if_pos (by omega)]) | (rw [if_neg (by omega), if_neg (by omega)]))
theorem or_any (a b : Int) (w : World) : Calls Tryz.prog 12 #[.int .i64 a, .int .i64 b] w fun e w' => e = .returned (.int .i64 (orV a b)) ∧ w' = w := by
  obtain ⟨R, hR⟩ : ∃ R, Hid (R = orV a b) := ⟨_, Lib.hid rfl⟩
  rw [← hR.out]
  rcases sign3 a with ⟨a0, a1, a2, ha⟩ | ⟨a0, a1, a2, ha⟩ | ⟨a0, a1, a2, ha⟩ <;> rcases sign3 b with ⟨b0, b1, b2, hb⟩ | ⟨b0, b1, b2, hb⟩ | ⟨b0, b1, b2, hb⟩
  all_goals (
    go_enter Tryz.func12, Tryz.ntmps12
    go_wp2_with fail
    go_ret
    refine ⟨ret_int ?_, rfl⟩
    have h1 := hR.out
    have h2 := ha.out
    have h3 := hb.out
    clear a0 a1 a2 b0 b1 b2 hR ha hb
    rw [h1]
    unfold orV
    first | (rw [if_pos (by omega)]) | (rw [if_neg (by omega), if_pos (by omega)]) | (rw [if_neg (by omega), if_neg (by omega)]))
/-- three cells of a block -/
def C3 (w : World) (B : Nat) (x y z : Value) : Prop := w.cell? ⟨B, 0, none⟩ = some x ∧ w.cell? ⟨B, 1, none⟩ = some y ∧ w.cell? ⟨B, 2, none⟩ = some z
theorem C3.keep {w w' : World} {B n : Nat} {x y z : Value} (h : C3 w B x y z) (hb : Below n w w') (hn : B < n) : C3 w' B x y z :=
  ⟨by rw [hb.cell hn]; exact h.1, by rw [hb.cell hn]; exact h.2.1, by rw [hb.cell hn]; exact h.2.2⟩
theorem C3.new (w : World) (x y z : Value) (t : Nat) : C3 (w.alloc (.cells #[x, y, z] t)) w.heap.size x y z :=
  ⟨by go_simp, by go_simp, by go_simp⟩
theorem frz3 {w w' : World} {x y z : Value} {t n : Nat} (hb : Below n (w.alloc (.cells #[x, y, z] t)) w') (hn : w.heap.size < n) : w'.frozen? ⟨w.heap.size, 0, none⟩ = false ∧ w'.frozen? ⟨w.heap.size, 1, none⟩ = false ∧ w'.frozen? ⟨w.heap.size, 2, none⟩ = false :=
  ⟨by rw [hb.frozen (p := ⟨w.heap.size, 0, none⟩) hn]; go_simp, by rw [hb.frozen (p := ⟨w.heap.size, 1, none⟩) hn]; go_simp, by rw [hb.frozen (p := ⟨w.heap.size, 2, none⟩) hn]; go_simp⟩
theorem C3.set {w : World} {B : Nat} {x y z : Value} (h : C3 w B x y z) (u v t : Value) : (w.setCell ⟨B, 0, none⟩ u).cell? ⟨B, 0, none⟩ = some u ∧ ((w.setCell ⟨B, 0, none⟩ u).setCell ⟨B, 1, none⟩ v).cell? ⟨B, 1, none⟩ = some v ∧ (((w.setCell ⟨B, 0, none⟩ u).setCell ⟨B, 1, none⟩ v).setCell ⟨B, 2, none⟩ t).cell? ⟨B, 2, none⟩ = some t :=
  ⟨World.cell?_setCell_same _ _ _ h.1, World.cell?_setCell_same _ _ _ (u := y) (by rw [World.cell?_setCell_other _ _ _ _ (by simp)]; exact h.2.1),
    World.cell?_setCell_same _ _ _ (u := z) (by rw [World.cell?_setCell_other _ _ _ _ (by simp), World.cell?_setCell_other _ _ _ _ (by simp)]; exact h.2.2)⟩
theorem below_set3 {w w' : World} {n B : Nat} (hb : Below n w w') (h : n ≤ B) (u v t : Value) : Below n w (((w'.setCell ⟨B, 0, none⟩ u).setCell ⟨B, 1, none⟩ v).setCell ⟨B, 2, none⟩ t) :=
  ((hb.setCell h _).setCell h _).setCell h _
/-- the value of a truth -/
def ofK (t : Int) : Int := if t = 0 ∨ t = 1 then 4 else 0
def ofN (t : Int) : Int := if t = 1 then 1 else 0
end Go.Proofs.YtfmhdnefcapjgaaGreatDoor
/- Bitwise operations on unsigned numbers as natural numbers. Conditions: none. -/
set_option maxRecDepth 100000
namespace Go.Proofs.YtfmhdnefcapjgaaGreatDoor

theorem wu64 (n : Int) (h₀ : 0 ≤ n) (h₁ : n < 2 ^ 64) : IntKind.u64.wrap n = n := by rw [IntKind.wrap_u64]; omega
theorem wu32 (n : Int) (h₀ : 0 ≤ n) (h₁ : n < 2 ^ 32) : IntKind.u32.wrap n = n := by rw [IntKind.wrap_u32]; omega
theorem or_u64 (a b : Nat) (ha : a < 18446744073709551616) (hb : b < 18446744073709551616) : bits .or .u64 (a : Int) (b : Int) = ((a ||| b : Nat) : Int) := (bits_nat .u64 64 (Nat.le_refl _) wu64 a b ha hb).2
theorem and_u64 (a b : Nat) (ha : a < 18446744073709551616) (hb : b < 18446744073709551616) : bits .and .u64 (a : Int) (b : Int) = ((a &&& b : Nat) : Int) := (bits_nat .u64 64 (Nat.le_refl _) wu64 a b ha hb).1
theorem or_u32 (a b : Nat) (ha : a < 4294967296) (hb : b < 4294967296) : bits .or .u32 (a : Int) (b : Int) = ((a ||| b : Nat) : Int) := (bits_nat .u32 32 (Nat.le_refl _) wu32 a b ha hb).2
theorem and_u32 (a b : Nat) (ha : a < 4294967296) (hb : b < 4294967296) : bits .and .u32 (a : Int) (b : Int) = ((a &&& b : Nat) : Int) := (bits_nat .u32 32 (Nat.le_refl _) wu32 a b ha hb).1
theorem or_u8 (a b : Nat) (ha : a < 256) (hb : b < 256) : bits .or .u8 (a : Int) (b : Int) = ((a ||| b : Nat) : Int) := (bits_nat .u8 8 (Nat.le_refl _) wraps_u8 a b ha hb).2
theorem and_u8 (a b : Nat) (ha : a < 256) (hb : b < 256) : bits .and .u8 (a : Int) (b : Int) = ((a &&& b : Nat) : Int) := (bits_nat .u8 8 (Nat.le_refl _) wraps_u8 a b ha hb).1
theorem xor_u32 (a b : Nat) (ha : a < 4294967296) (hb : b < 4294967296) : bits .xor .u32 (a : Int) (b : Int) = ((a ^^^ b : Nat) : Int) := by
  have hx : a ^^^ b < 2 ^ 32 := Nat.xor_lt_two_pow (by omega) (by omega)
  have h1 : (BitVec.ofInt 32 (a : Int)).toNat = a := by
    rw [BitVec.ofInt_natCast, BitVec.toNat_ofNat]; exact Nat.mod_eq_of_lt (by omega)
  have h2 : (BitVec.ofInt 32 (b : Int)).toNat = b := by
    rw [BitVec.ofInt_natCast, BitVec.toNat_ofNat]; exact Nat.mod_eq_of_lt (by omega)
  show IntKind.u32.wrap ((BitVec.ofInt 32 (a : Int) ^^^ BitVec.ofInt 32 (b : Int)).toNat : Int) = _
  rw [BitVec.toNat_xor, h1, h2, IntKind.wrap_u32]
  omega
theorem or128 : ∀ x : Nat, x < 256 → x ||| 128 = x % 128 + 128 := by decide
theorem mask_u8 (j : Nat) (hj : j ≤ 8) (x : Nat) (hx : x < 256) : bits .and .u8 (x : Int) (2 ^ j - 1) = ((x % 2 ^ j : Nat) : Int) := by
  rw [bits_mask .u8 8 (Nat.le_refl _) wraps_u8 j hj (x : Int) (by omega) (by omega)]; simp
theorem and127 (x : Nat) (hx : x < 256) : bits .and .u8 (x : Int) 127 = ((x % 128 : Nat) : Int) := mask_u8 7 (by omega) x hx
theorem low_or128 (k : Nat) : bits .or .u8 ((k : Int) % 256) 128 = ((UInt8.ofNat (k % 128 + 128)).toNat : Int) := by
  have h := or_u8 (k % 256) 128 (Nat.mod_lt _ (by omega)) (by omega)
  have e : (((k % 256 : Nat)) : Int) = (k : Int) % 256 := by omega
  rw [e] at h
  rw [show (128 : Int) = ((128 : Nat) : Int) from rfl, h, or128 _ (Nat.mod_lt _ (by omega))]
  simp
  omega
theorem ofInt_nat64 (a : Nat) (ha : a < 18446744073709551616) : (BitVec.ofInt 64 (a : Int)).toNat = a := by
  rw [BitVec.ofInt_natCast, BitVec.toNat_ofNat]; exact Nat.mod_eq_of_lt (by omega)
theorem ofInt_nat32 (a : Nat) (ha : a < 4294967296) : (BitVec.ofInt 32 (a : Int)).toNat = a := by
  rw [BitVec.ofInt_natCast, BitVec.toNat_ofNat]; exact Nat.mod_eq_of_lt (by omega)
theorem not_u64 (a : Nat) (ha : a < 18446744073709551616) : bits .xor .u64 IntKind.u64.max (a : Int) = 18446744073709551615 - (a : Int) := by
  have e : BitVec.ofInt 64 IntKind.u64.max = BitVec.allOnes 64 := by decide
  show IntKind.u64.wrap ((BitVec.ofInt 64 IntKind.u64.max ^^^ BitVec.ofInt 64 (a : Int)).toNat : Int) = _
  rw [e, BitVec.allOnes_xor, BitVec.toNat_not, ofInt_nat64 a ha, IntKind.wrap_u64]
  omega
theorem not_u32 (a : Nat) (ha : a < 4294967296) : bits .xor .u32 IntKind.u32.max (a : Int) = 4294967295 - (a : Int) := by
  have e : BitVec.ofInt 32 IntKind.u32.max = BitVec.allOnes 32 := by decide
  show IntKind.u32.wrap ((BitVec.ofInt 32 IntKind.u32.max ^^^ BitVec.ofInt 32 (a : Int)).toNat : Int) = _
  rw [e, BitVec.allOnes_xor, BitVec.toNat_not, ofInt_nat32 a ha, IntKind.wrap_u32]
  omega
theorem not_i64 (a : Nat) (ha : a < 9223372036854775808) : bits .xor .i64 (-1) (a : Int) = -(a : Int) - 1 := by
  have e : BitVec.ofInt 64 (-1) = BitVec.allOnes 64 := by decide
  show IntKind.i64.wrap ((BitVec.ofInt 64 (-1) ^^^ BitVec.ofInt 64 (a : Int)).toNat : Int) = _
  rw [e, BitVec.allOnes_xor, BitVec.toNat_not, ofInt_nat64 a (by omega), IntKind.wrap_i64]
  omega
theorem and1_u64 (u : Nat) (h : u < 18446744073709551616) : bits .and .u64 (u : Int) 1 = ((u % 2 : Nat) : Int) := by
  have := and_u64 u 1 h (by omega)
  rw [Nat.and_one_is_mod] at this
  exact this
end Go.Proofs.YtfmhdnefcapjgaaGreatDoor
/- How two words of binary64 stand to each other: as their signed rungs do. Conditions: each word below 2^64. -/
set_option maxRecDepth 100000
namespace Go.Proofs.YtfmhdnefcapjgaaGreatDoor

/-- a magnitude in units of the least one: significand and shift of a rung -/
def fM (r : Nat) : Nat := if r < 4503599627370496 then r else 4503599627370496 + r % 4503599627370496
def fK (r : Nat) : Nat := r / 4503599627370496 - 1
def fV (r : Nat) : Nat := fM r * 2 ^ fK r
theorem fV_step (r : Nat) : fV r < fV (r + 1) := by
  unfold fV fM fK
  by_cases h1 : r + 1 < 4503599627370496
  · rw [if_pos (by omega), if_pos h1, show r / 4503599627370496 - 1 = 0 by omega, show (r + 1) / 4503599627370496 - 1 = 0 by omega]; omega
  · by_cases h2 : r < 4503599627370496
    · rw [if_pos h2, if_neg h1, show r / 4503599627370496 - 1 = 0 by omega, show (r + 1) / 4503599627370496 - 1 = 0 by omega]; omega
    · rw [if_neg h2, if_neg h1]
      by_cases h3 : r % 4503599627370496 + 1 < 4503599627370496
      · rw [show (r + 1) / 4503599627370496 = r / 4503599627370496 by omega, show (r + 1) % 4503599627370496 = r % 4503599627370496 + 1 by omega]
        exact Nat.mul_lt_mul_of_pos_right (by omega) (Nat.two_pow_pos _)
      · obtain ⟨q, hq⟩ : ∃ q, r / 4503599627370496 = q + 1 := ⟨r / 4503599627370496 - 1, by omega⟩
        rw [show (r + 1) / 4503599627370496 = q + 1 + 1 by omega, show (r + 1) % 4503599627370496 = 0 by omega, hq, Nat.add_sub_cancel, Nat.add_sub_cancel, Nat.pow_succ]
        have := Nat.two_pow_pos q
        generalize 2 ^ q = P at this ⊢
        have h4 : (4503599627370496 + r % 4503599627370496) * P ≤ 9007199254740991 * P := Nat.mul_le_mul_right _ (by omega)
        omega
theorem fV_mono {r t : Nat} (h : r < t) : fV r < fV t := by
  obtain ⟨n, rfl⟩ : ∃ n, t = r + n + 1 := ⟨t - r - 1, by omega⟩
  induction n with
  | zero => exact fV_step r
  | succ n ih => exact Nat.lt_trans (ih (by omega)) (fV_step (r + n + 1))
theorem fV_zero : fV 0 = 0 := by decide
theorem fV_pos {r : Nat} (h : 0 < r) : 0 < fV r := by have := fV_mono h; rw [fV_zero] at this; exact this
/-- a magnitude with its sign -/
def sgn (s : Bool) (v : Nat) : Int := if s then -(v : Int) else (v : Int)
/-- a word's rung with its sign -/
def fS (x : Nat) : Int := sgn (decide (9223372036854775808 ≤ x)) (x % 9223372036854775808)
theorem sgn_lt (s t : Bool) (r u : Nat) : (sgn s (fV r) < sgn t (fV u) ↔ sgn s r < sgn t u) ∧ (sgn s (fV r) = sgn t (fV u) ↔ sgn s r = sgn t u) := by
  have h1 : r < u → fV r < fV u := fV_mono
  have h2 : u < r → fV u < fV r := fV_mono
  have h3 : r = u → fV r = fV u := fun e => by rw [e]
  have h4 : 0 < r → 0 < fV r := fV_pos
  have h5 : 0 < u → 0 < fV u := fV_pos
  have h6 : r = 0 → fV r = 0 := fun e => by rw [e]; exact fV_zero
  have h7 : u = 0 → fV u = 0 := fun e => by rw [e]; exact fV_zero
  generalize fV r = a at *
  generalize fV u = b at *
  unfold sgn
  cases s <;> cases t <;> simp only [if_true, if_false, Bool.false_eq_true] <;> omega
theorem cmp_same {a b c d : Int} (h : a < b ↔ c < d) (k : a = b ↔ c = d) : compare a b = compare c d := by
  rcases Int.lt_trichotomy a b with h1 | h1 | h1
  · rw [Int.compare_eq_lt.2 h1, Int.compare_eq_lt.2 (h.1 h1)]
  · rw [Int.compare_eq_eq.2 h1, Int.compare_eq_eq.2 (k.1 h1)]
  · rw [Int.compare_eq_gt.2 h1, Int.compare_eq_gt.2 (by omega)]
theorem read_word (x : Nat) (hx : x < 18446744073709551616) :
    (x % 9223372036854775808 < 9218868437227405312 → Ieee.double.read x = .number (decide (9223372036854775808 ≤ x)) (fM (x % 9223372036854775808)) (Ieee.double.leastPlace + (fK (x % 9223372036854775808) : Nat))) ∧
    (x % 9223372036854775808 = 9218868437227405312 → Ieee.double.read x = .infinity (decide (9223372036854775808 ≤ x))) ∧
    (9218868437227405312 < x % 9223372036854775808 → ∃ f, Ieee.double.read x = .nan (decide (9223372036854775808 ≤ x)) f) := by
  have e1 : Ieee.double.signWeight = 9223372036854775808 := rfl
  have e2 : Ieee.double.binade = 4503599627370496 := rfl
  have e3 : Ieee.double.infRung = 9218868437227405312 := rfl
  have e4 : (x / 9223372036854775808 % 2 == 1) = decide (9223372036854775808 ≤ x) := by
    rw [Bool.eq_iff_iff, beq_iff_eq, decide_eq_true_iff]; omega
  unfold Ieee.Format.read
  simp only [e1, e2, e3, e4]
  generalize x % 9223372036854775808 = r
  refine ⟨fun h => ?_, fun h => ?_, fun h => ?_⟩
  · by_cases h1 : r < 4503599627370496
    · rw [if_pos h1]
      unfold fM fK
      rw [if_pos h1, show r / 4503599627370496 - 1 = 0 by omega]
      simp
    · rw [if_neg h1, if_pos h]
      unfold fM fK
      rw [if_neg h1]
  · rw [if_neg (by omega), if_neg (by omega), if_pos h]
  · rw [if_neg (by omega), if_neg (by omega), if_neg (by omega)]
    exact ⟨_, rfl⟩
theorem num_order (s t : Bool) (r u : Nat) (p : Int) : Ieee.Datum.order (.number s (fM r) (p + (fK r : Nat))) (.number t (fM u) (p + (fK u : Nat))) = some (compare (sgn s r) (sgn t u)) := by
  obtain ⟨m, hm⟩ : ∃ m, m = min (fK r) (fK u) := ⟨_, rfl⟩
  have a1 : (p + (fK r : Nat) - min (p + (fK r : Nat)) (p + (fK u : Nat))).toNat = fK r - m := by omega
  have a2 : (p + (fK u : Nat) - min (p + (fK r : Nat)) (p + (fK u : Nat))).toNat = fK u - m := by omega
  show some (compare (Ieee.signed s (fM r) (p + (fK r : Nat) - min (p + (fK r : Nat)) (p + (fK u : Nat))).toNat) (Ieee.signed t (fM u) (p + (fK u : Nat) - min (p + (fK r : Nat)) (p + (fK u : Nat))).toNat)) = _
  rw [a1, a2]
  have b1 : fM r * 2 ^ (fK r - m) * 2 ^ m = fV r := by unfold fV; rw [Nat.mul_assoc, ← Nat.pow_add, Nat.sub_add_cancel (by omega)]
  have b2 : fM u * 2 ^ (fK u - m) * 2 ^ m = fV u := by unfold fV; rw [Nat.mul_assoc, ← Nat.pow_add, Nat.sub_add_cancel (by omega)]
  have hp := Nat.two_pow_pos m
  have g1 : ∀ (s : Bool) (q k : Nat), Ieee.signed s q k = sgn s (q * 2 ^ k) := fun s q k => by unfold Ieee.signed sgn; rw [Nat.shiftLeft_eq]
  rw [g1, g1]
  have hs := sgn_lt s t r u
  rw [← b1, ← b2] at hs
  generalize fM r * 2 ^ (fK r - m) = a at hs ⊢
  generalize fM u * 2 ^ (fK u - m) = b at hs ⊢
  generalize 2 ^ m = P at hp hs
  have g2 : ∀ (s : Bool) (q : Nat), sgn s (q * P) = sgn s q * (P : Int) := fun s q => by
    unfold sgn; cases s <;> simp [Int.neg_mul]
  rw [g2, g2] at hs
  have hP : (0 : Int) < (P : Int) := by omega
  refine congrArg some (cmp_same ?_ ?_)
  · rw [← hs.1]; exact (Int.mul_lt_mul_right hP).symm
  · rw [← hs.2]
    constructor
    · intro e; rw [e]
    · intro e; exact Int.eq_of_mul_eq_mul_right (by omega) e
/-- two words of binary64: none where one is a NaN; else as their signed rungs -/
theorem order_words (x y : Nat) (hx : x < 18446744073709551616) (hy : y < 18446744073709551616) :
    Ieee.double.order x y = if 9218868437227405312 < x % 9223372036854775808 ∨ 9218868437227405312 < y % 9223372036854775808 then none else some (compare (fS x) (fS y)) := by
  obtain ⟨x1, x2, x3⟩ := read_word x hx
  obtain ⟨y1, y2, y3⟩ := read_word y hy
  have hxr : x % 9223372036854775808 < 9223372036854775808 := Nat.mod_lt _ (by decide)
  have hyr : y % 9223372036854775808 < 9223372036854775808 := Nat.mod_lt _ (by decide)
  unfold Ieee.Format.order fS
  generalize decide (9223372036854775808 ≤ x) = s at *
  generalize decide (9223372036854775808 ≤ y) = t at *
  generalize x % 9223372036854775808 = r at *
  generalize y % 9223372036854775808 = u at *
  by_cases hxn : 9218868437227405312 < r
  · obtain ⟨f, hf⟩ := x3 hxn
    rw [hf, if_pos (.inl hxn)]
    rfl
  · by_cases hyn : 9218868437227405312 < u
    · obtain ⟨f, hf⟩ := y3 hyn
      rw [hf, if_pos (.inr hyn)]
      cases Ieee.double.read x <;> rfl
    · rw [if_neg (by omega)]
      have g3 : ∀ (s t : Bool) (r u : Nat), sgn s r < sgn t u → compare (sgn s r) (sgn t u) = .lt := fun s t r u h => Int.compare_eq_lt.2 h
      have g4 : ∀ (s t : Bool) (r u : Nat), sgn t u < sgn s r → compare (sgn s r) (sgn t u) = .gt := fun s t r u h => Int.compare_eq_gt.2 h
      by_cases hxi : r = 9218868437227405312
      · rw [x2 hxi]
        by_cases hyi : u = 9218868437227405312
        · rw [y2 hyi, hxi, hyi]
          cases s <;> cases t <;> rfl
        · rw [y1 (by omega)]
          cases s
          · rw [g4 false t r u (by unfold sgn; cases t <;> simp only [if_true, if_false, Bool.false_eq_true] <;> omega)]; rfl
          · rw [g3 true t r u (by unfold sgn; cases t <;> simp only [if_true, if_false, Bool.false_eq_true] <;> omega)]; rfl
      · rw [x1 (by omega)]
        by_cases hyi : u = 9218868437227405312
        · rw [y2 hyi]
          cases t
          · rw [g3 s false r u (by unfold sgn; cases s <;> simp only [if_true, if_false, Bool.false_eq_true] <;> omega)]; rfl
          · rw [g4 s true r u (by unfold sgn; cases s <;> simp only [if_true, if_false, Bool.false_eq_true] <;> omega)]; rfl
        · rw [y1 (by omega)]
          exact num_order s t r u _
/-- is a word a NaN's? -/
def nanW (u : Nat) : Bool := decide (9218868437227405312 < u % 9223372036854775808)
/-- of words that are alike the good one -/
def canonW (u : Nat) : Nat := if nanW u then 9221120237041090560 else if u = 9223372036854775808 then 0 else u
/-- a word's key -/
def keyW (u : Nat) : Nat := if nanW u then 18446744073709551615 else if 9223372036854775808 ≤ canonW u then 18446744073709551615 - canonW u else canonW u + 9223372036854775808
theorem nanW_iff {u : Nat} : nanW u = true ↔ 9218868437227405312 < u % 9223372036854775808 := by unfold nanW; exact decide_eq_true_iff
theorem nanW_not {u : Nat} : nanW u = false ↔ u % 9223372036854775808 ≤ 9218868437227405312 := by unfold nanW; rw [decide_eq_false_iff_not]; omega
theorem fS_cases (u : Nat) (hu : u < 18446744073709551616) : (9223372036854775808 ≤ u ∧ fS u = 9223372036854775808 - (u : Int)) ∨ (u < 9223372036854775808 ∧ fS u = (u : Int)) := by
  unfold fS sgn
  by_cases h : 9223372036854775808 ≤ u
  · rw [decide_eq_true h, if_pos rfl]; exact .inl ⟨h, by omega⟩
  · rw [decide_eq_false h, if_neg (by decide)]; exact .inr ⟨by omega, by omega⟩
/-- a key as a signed rung -/
theorem key_val (u : Nat) (hu : u < 18446744073709551616) (hn : nanW u = false) : keyW u = if fS u < 0 then 9223372036854775807 - (fS u).natAbs else 9223372036854775808 + (fS u).natAbs := by
  have h := nanW_not.1 hn
  have hc : canonW u = if u = 9223372036854775808 then 0 else u := by unfold canonW; rw [hn]; rfl
  have hk : keyW u = if 9223372036854775808 ≤ canonW u then 18446744073709551615 - canonW u else canonW u + 9223372036854775808 := by unfold keyW; rw [hn]; rfl
  rw [hk, hc]
  rcases fS_cases u hu with ⟨h1, h2⟩ | ⟨h1, h2⟩
  · rw [h2]
    by_cases h3 : u = 9223372036854775808
    · rw [if_pos h3, if_neg (by decide), if_neg (by omega)]; omega
    · rw [if_neg h3, if_pos h1, if_pos (by omega)]; omega
  · rw [h2, if_neg (by omega : ¬ u = 9223372036854775808), if_neg (by omega : ¬ 9223372036854775808 ≤ u), if_neg (by omega : ¬ (u : Int) < 0)]; omega
theorem fS_bound (u : Nat) (hu : u < 18446744073709551616) (hn : nanW u = false) : -9218868437227405312 ≤ fS u ∧ fS u ≤ 9218868437227405312 := by
  have h := nanW_not.1 hn
  rcases fS_cases u hu with ⟨h1, h2⟩ | ⟨h1, h2⟩ <;> omega
theorem key_lt (u v : Nat) (hu : u < 18446744073709551616) (hv : v < 18446744073709551616) (hun : nanW u = false) (hvn : nanW v = false) : (keyW u < keyW v ↔ fS u < fS v) ∧ (keyW u = keyW v ↔ fS u = fS v) := by
  have b1 := fS_bound u hu hun
  have b2 := fS_bound v hv hvn
  rw [key_val u hu hun, key_val v hv hvn]
  by_cases h1 : fS u < 0 <;> by_cases h2 : fS v < 0
  · rw [if_pos h1, if_pos h2]; omega
  · rw [if_pos h1, if_neg h2]; omega
  · rw [if_neg h1, if_pos h2]; omega
  · rw [if_neg h1, if_neg h2]; omega
/-- a NaN's key is the greatest -/
theorem key_nan (u v : Nat) (hv : v < 18446744073709551616) (hu : nanW u = true) (hvn : nanW v = false) : keyW v < keyW u := by
  have b2 := fS_bound v hv hvn
  rw [key_val v hv hvn]
  unfold keyW
  rw [hu, if_pos rfl]
  split <;> omega
theorem canon_nan {u : Nat} (h : nanW u = true) : canonW u = 9221120237041090560 := by unfold canonW; rw [h]; rfl
theorem canon_not {u : Nat} (h : nanW u = false) : canonW u = if u = 9223372036854775808 then 0 else u := by unfold canonW; rw [h]; rfl
theorem nan_canon (u : Nat) : nanW (canonW u) = nanW u := by
  cases h : nanW u
  · rw [canon_not h]
    split
    · rfl
    · exact h
  · rw [canon_nan h]; rfl
theorem canon_lt (u : Nat) (hu : u < 18446744073709551616) : canonW u < 18446744073709551616 := by
  cases h : nanW u
  · rw [canon_not h]; split <;> omega
  · rw [canon_nan h]; omega
theorem canon_idem (u : Nat) : canonW (canonW u) = canonW u := by
  cases h : nanW u
  · have h2 := nan_canon u
    rw [h] at h2
    rw [canon_not h2]
    have h3 := canon_not h
    by_cases h4 : u = 9223372036854775808
    · rw [if_pos h4] at h3; rw [h3]; rfl
    · rw [if_neg h4] at h3; rw [h3, if_neg h4]
  · rw [canon_nan h]; rfl
theorem key_canon (u : Nat) : keyW (canonW u) = keyW u := by unfold keyW; rw [nan_canon, canon_idem]
theorem key_max (u : Nat) (hu : u < 18446744073709551616) : keyW u = 18446744073709551615 ↔ nanW u = true := by
  cases h : nanW u
  · have b := fS_bound u hu h
    rw [key_val u hu h]
    constructor
    · intro e; exfalso; split at e <;> omega
    · intro e; cases e
  · unfold keyW; rw [h]; simp
/-- the float of a key -/
def backU (k : Nat) : Nat := if k < 9223372036854775808 then 18446744073709551615 - k else k - 9223372036854775808
def backW (k : Nat) : Nat := if k = 18446744073709551615 then 9221120237041090560 else if canonW (backU k) = backU k ∧ keyW (backU k) = k then backU k else 0
theorem back_key (u : Nat) (hu : u < 18446744073709551616) : backW (keyW u) = canonW u := by
  unfold backW
  cases h : nanW u
  · rw [if_neg (fun e => by rw [(key_max u hu).1 e] at h; cases h)]
    have hb : backU (keyW u) = canonW u := by
      have hc := canon_lt u hu
      have hk : keyW u = if 9223372036854775808 ≤ canonW u then 18446744073709551615 - canonW u else canonW u + 9223372036854775808 := by unfold keyW; rw [h]; rfl
      unfold backU
      rw [hk]
      by_cases h1 : 9223372036854775808 ≤ canonW u
      · rw [if_pos h1, if_pos (by omega)]; omega
      · rw [if_neg h1, if_neg (by omega)]; omega
    rw [hb, if_pos ⟨canon_idem u, key_canon u⟩]
  · rw [if_pos ((key_max u hu).2 h), canon_nan h]
end Go.Proofs.YtfmhdnefcapjgaaGreatDoor
/- Contracts of the small functions of order on floats: float, IsNaN, Signbit, Canon, Good, Nan. Conditions: none. -/
set_option maxRecDepth 100000
namespace Go.Proofs.YtfmhdnefcapjgaaGreatDoor
open Go.RowKit

/-- a word as an int -/
def iw (u : Nat) : Int := if u < 9223372036854775808 then (u : Int) else (u : Int) - 18446744073709551616
theorem iw_u64 (u : Nat) (h : u < 18446744073709551616) : IntKind.u64.wrap (iw u) = (u : Int) := by
  rw [IntKind.wrap_u64]; unfold iw; split <;> omega
theorem iw_i64 (u : Nat) (h : u < 18446744073709551616) : IntKind.i64.wrap (u : Int) = iw u := by
  rw [IntKind.wrap_i64]; unfold iw; split <;> omega
theorem iw_of (n : Int) (h0 : -9223372036854775808 ≤ n) (h1 : n < 9223372036854775808) : ∃ u : Nat, u < 18446744073709551616 ∧ n = iw u := by
  by_cases h : 0 ≤ n
  · exact ⟨n.toNat, by omega, by unfold iw; rw [if_pos (by omega)]; omega⟩
  · exact ⟨(n + 18446744073709551616).toNat, by omega, by unfold iw; rw [if_neg (by omega)]; omega⟩
theorem iw_inj {u v : Nat} (hu : u < 18446744073709551616) (hv : v < 18446744073709551616) : iw u = iw v ↔ u = v := by
  unfold iw; split <;> split <;> omega
theorem iw_bounds (u : Nat) (h : u < 18446744073709551616) : -9223372036854775808 ≤ iw u ∧ iw u < 9223372036854775808 := by
  unfold iw; split <;> omega
theorem iw_neg (u : Nat) (h : u < 18446744073709551616) : iw u < 0 ↔ 9223372036854775808 ≤ u := by
  unfold iw; split <;> omega

/-- the highest bit turned -/
def xorS (u : Nat) : Nat := if u < 9223372036854775808 then u + 9223372036854775808 else u - 9223372036854775808
theorem xorS_lt (u : Nat) (h : u < 18446744073709551616) : xorS u < 18446744073709551616 := by unfold xorS; split <;> omega
theorem xorS_back (u : Nat) (h : u < 18446744073709551616) : xorS (xorS u) = u := by unfold xorS; split <;> split <;> omega
theorem xor_pow (u : Nat) (h : u < 18446744073709551616) : u ^^^ 9223372036854775808 = xorS u := by
  have e1 : (u ^^^ 2 ^ 63) % 2 ^ 63 = u % 2 ^ 63 := by rw [Nat.xor_mod_two_pow, Nat.mod_self, Nat.xor_zero]
  have e2 : (u ^^^ 2 ^ 63) / 2 ^ 63 = u / 2 ^ 63 ^^^ 1 := by rw [Nat.xor_div_two_pow]
  rw [show u ^^^ 9223372036854775808 = u ^^^ 2 ^ 63 from rfl]
  generalize u ^^^ 2 ^ 63 = x at e1 e2 ⊢
  unfold xorS
  rcases (by omega : u / 2 ^ 63 = 0 ∨ u / 2 ^ 63 = 1) with h1 | h1
  · rw [h1, show 0 ^^^ 1 = 1 from rfl] at e2; rw [if_pos (by omega)]; omega
  · rw [h1, show 1 ^^^ 1 = 0 from rfl] at e2; rw [if_neg (by omega)]; omega
theorem xor_sign (u : Nat) (h : u < 18446744073709551616) : bits .xor .u64 (u : Int) 9223372036854775808 = ((xorS u : Nat) : Int) := by
  have hx := xorS_lt u h
  have h2 : (BitVec.ofInt 64 9223372036854775808).toNat = 9223372036854775808 := by decide
  show IntKind.u64.wrap ((BitVec.ofInt 64 (u : Int) ^^^ BitVec.ofInt 64 9223372036854775808).toNat : Int) = _
  rw [BitVec.toNat_xor, ofInt_nat64 u h, h2, xor_pow u h, IntKind.wrap_u64]
  omega

theorem frombits_run (u : Nat) (w : World) : (callFunc 45 #[.int .u64 (u : Int)]).run Tryz.prog w = .ok (.value (.float .f64 u)) w := by
  rw [run_callFunc_extern Tryz.func45 (by kernel_rfl) (by kernel_rfl) (by kernel_rfl) (e := Extern.MathFloatBits.float64frombits) (by kernel_rfl)]
  rfl
theorem bits_run (u : Nat) (w : World) : (callFunc 48 #[.float .f64 u]).run Tryz.prog w = .ok (.value (.int .u64 (u : Int))) w := by
  rw [run_callFunc_extern Tryz.func48 (by kernel_rfl) (by kernel_rfl) (by kernel_rfl) (e := Extern.MathFloatBits.float64bits) (by kernel_rfl)]
  rfl
theorem float_any (u : Nat) (hu : u < 18446744073709551616) (w : World) : Calls Tryz.prog 33 #[.int .i64 (iw u)] w fun e w' => e = .returned (.float .f64 u) ∧ w = w' := by
  have hw := iw_u64 u hu
  have hr := frombits_run u
  go_enter Tryz.func33, Tryz.ntmps33
  go_wp2_with fail
  go_ret
  exact ⟨rfl, rfl⟩
theorem f64_order (x y : Nat) : FloatKind.f64.format.order x y = Ieee.double.order x y := rfl
theorem order_self (u : Nat) (hu : u < 18446744073709551616) : (FloatKind.f64.format.order u u != some .eq) = nanW u := by
  rw [f64_order, order_words u u hu hu]
  unfold nanW
  by_cases h : 9218868437227405312 < u % 9223372036854775808
  · rw [if_pos (.inl h), decide_eq_true h]; rfl
  · rw [if_neg (by omega), decide_eq_false h, Int.compare_eq_eq.2 rfl]; rfl
theorem isNaN_any (u : Nat) (hu : u < 18446744073709551616) (w : World) : Calls Tryz.prog 46 #[.float .f64 u] w fun e w' => e = .returned (.bool (nanW u)) ∧ w = w' := by
  have ho := order_self u hu
  go_enter Tryz.func46, Tryz.ntmps46
  go_wp2_with fail
  go_ret
  exact ⟨rfl, rfl⟩
theorem order_zero (u : Nat) (hu : u < 18446744073709551616) (hn : nanW u = false) : (FloatKind.f64.format.order u 0 == some .eq) = decide (u % 9223372036854775808 = 0) := by
  rw [f64_order, order_words u 0 hu (by decide), if_neg (by have := nanW_not.1 hn; omega), show fS 0 = 0 from rfl]
  by_cases h : u % 9223372036854775808 = 0
  · have e : fS u = 0 := by unfold fS; rw [h]; unfold sgn; split <;> rfl
    rw [e, decide_eq_true h]; rfl
  · have e : fS u ≠ 0 := by rcases fS_cases u hu with ⟨h1, h2⟩ | ⟨h1, h2⟩ <;> omega
    rw [decide_eq_false h]
    rcases Int.lt_or_gt_of_ne e with h3 | h3
    · rw [Int.compare_eq_lt.2 h3]; rfl
    · rw [Int.compare_eq_gt.2 h3]; rfl
theorem canon_any (u : Nat) (hu : u < 18446744073709551616) (w : World) : Calls Tryz.prog 51 #[.int .i64 (iw u)] w fun e w' => e = .returned (.int .i64 (iw (canonW u))) ∧ w = w' := by
  have K1 := fun w => float_any u hu w
  have K2 := fun w => isNaN_any u hu w
  cases hn : nanW u
  · have ho := order_zero u hu hn
    by_cases hz : u % 9223372036854775808 = 0
    · have HR : iw (canonW u) = 0 := by
        rw [canon_not hn]
        by_cases h : u = 9223372036854775808
        · rw [if_pos h]; rfl
        · rw [if_neg h, show u = 0 by omega]; rfl
      rw [HR]
      rw [decide_eq_true hz] at ho
      rw [hn] at K2
      clear HR hn hz
      go_enter Tryz.func51, Tryz.ntmps51
      go_wp2_with (first | (go_at_call 33; refine (K1 _).mono ?_; rintro e w' ⟨rfl, rfl⟩) | (go_at_call 46; refine (K2 _).mono ?_; rintro e w' ⟨rfl, rfl⟩))
      go_ret
      exact ⟨rfl, rfl⟩
    · have HR : canonW u = u := by rw [canon_not hn, if_neg (by omega)]
      rw [HR]
      rw [decide_eq_false hz] at ho
      rw [hn] at K2
      clear HR hn hz
      go_enter Tryz.func51, Tryz.ntmps51
      go_wp2_with (first | (go_at_call 33; refine (K1 _).mono ?_; rintro e w' ⟨rfl, rfl⟩) | (go_at_call 46; refine (K2 _).mono ?_; rintro e w' ⟨rfl, rfl⟩))
      go_ret
      exact ⟨rfl, rfl⟩
  · have HR : iw (canonW u) = 9221120237041090560 := by rw [canon_nan hn]; rfl
    rw [HR]
    rw [hn] at K2
    clear HR hn
    go_enter Tryz.func51, Tryz.ntmps51
    go_wp2_with (first | (go_at_call 33; refine (K1 _).mono ?_; rintro e w' ⟨rfl, rfl⟩) | (go_at_call 46; refine (K2 _).mono ?_; rintro e w' ⟨rfl, rfl⟩))
    go_ret
    exact ⟨rfl, rfl⟩
theorem nan_any (u : Nat) (hu : u < 18446744073709551616) (w : World) : Calls Tryz.prog 34 #[.int .i64 (iw u)] w fun e w' => e = .returned (.bool (nanW u)) ∧ w = w' := by
  have K1 := fun w => float_any u hu w
  have K2 := fun w => isNaN_any u hu w
  go_enter Tryz.func34, Tryz.ntmps34
  go_wp2_with (first | (go_at_call 33; refine (K1 _).mono ?_; rintro e w' ⟨rfl, rfl⟩) | (go_at_call 46; refine (K2 _).mono ?_; rintro e w' ⟨rfl, rfl⟩))
  go_ret
  exact ⟨rfl, rfl⟩
def goodW (u : Nat) : Bool := decide (canonW u = u)
theorem good_eq (u : Nat) (hu : u < 18446744073709551616) : (iw (canonW u) == iw u) = goodW u := by
  unfold goodW; rw [Bool.eq_iff_iff, beq_iff_eq, decide_eq_true_iff]; exact iw_inj (canon_lt u hu) hu
theorem good_any (u : Nat) (hu : u < 18446744073709551616) (w : World) : Calls Tryz.prog 136 #[.int .i64 (iw u)] w fun e w' => e = .returned (.bool (goodW u)) ∧ w = w' := by
  have K1 := fun w => canon_any u hu w
  have hg := good_eq u hu
  go_enter Tryz.func136, Tryz.ntmps136
  go_wp2_with (go_at_call 51; refine (K1 _).mono ?_; rintro e w' ⟨rfl, rfl⟩)
  go_ret
  exact ⟨rfl, rfl⟩
end Go.Proofs.YtfmhdnefcapjgaaGreatDoor
