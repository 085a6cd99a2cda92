/- Slices in memory: what a slice holds, appends onto a row of the call's own, new rows, conversions of bytes to text. Conditions: none. -/
import Derived.Test.YtlhpbfjelgmkeaaGreatRows
import Derived.WalkKit
import Derived.WalkSpells
import Derived.WalkLawsBesides
import Derived.Lib.Hide
import Derived.Deep.Light
import Derived.Deep.RegionLaw
import Derived.Maps.OwnSet
import Derived.Sort.KeysCollected
import Derived.OneCell
import Derived.Below
import Derived.Deep.QuietTactic
import Derived.BigQuiet
import Derived.OpenShut
set_option maxRecDepth 100000
namespace Go.Proofs.YtlhpbfjelgmkeaaGreat
open Go.RowKit Go.Maps Go.Sort

theorem ret_bool {a b : Bool} (h : a = b) : Ending.returned (.bool a) = Ending.returned (.bool b) := by rw [h]
theorem ret_int {k : IntKind} {a b : Int} (h : a = b) : Ending.returned (.int k a) = Ending.returned (.int k b) := by rw [h]

def u8s (l : List UInt8) : List Value := l.map fun c => .int .u8 (c.toNat : Int)
def i64s (l : List Int) : List Value := l.map fun n => .int .i64 n
def u64s (l : List UInt64) : List Value := l.map fun c => .int .u64 (c.toNat : Int)
theorem u8s_len (l : List UInt8) : (u8s l).length = l.length := by simp [u8s]
theorem i64s_len (l : List Int) : (i64s l).length = l.length := by simp [i64s]
theorem u64s_len (l : List UInt64) : (u64s l).length = l.length := by simp [u64s]
theorem u8s_append (a b : List UInt8) : u8s (a ++ b) = u8s a ++ u8s b := by simp [u8s]
theorem i64s_append (a b : List Int) : i64s (a ++ b) = i64s a ++ i64s b := by simp [i64s]
theorem u64s_append (a b : List UInt64) : u64s (a ++ b) = u64s a ++ u64s b := by simp [u64s]
theorem u8s_one (l : List UInt8) : ∀ u ∈ u8s l, u.oneCell' = true := fun u hu => by
  obtain ⟨c, _, rfl⟩ := List.mem_map.1 hu
  rfl
theorem i64s_one (l : List Int) : ∀ u ∈ i64s l, u.oneCell' = true := fun u hu => by
  obtain ⟨c, _, rfl⟩ := List.mem_map.1 hu
  rfl
theorem u64s_one (l : List UInt64) : ∀ u ∈ u64s l, u.oneCell' = true := fun u hu => by
  obtain ⟨c, _, rfl⟩ := List.mem_map.1 hu
  rfl

/-- what a slice holds -/
def Holds (w : World) (v : Value) (xs : List Value) : Prop :=
  ∃ a c, v = .slice a xs.length c ∧ xs.length ≤ c ∧ ((a = none ∧ xs = [] ∧ c = 0) ∨ ∃ ad, a = some ad ∧ ∀ j u, xs[j]? = some u → w.cell? (ad.add j) = some u)

theorem Holds.form {w : World} {v : Value} {xs : List Value} (h : Holds w v xs) : ∃ a c, v = .slice a xs.length c ∧ xs.length ≤ c := by
  obtain ⟨a, c, h1, h2, _⟩ := h
  exact ⟨a, c, h1, h2⟩
theorem Holds.kept {w w' : World} {v : Value} {l : List Value} (h : Holds w v l) (hc : ∀ (a : Addr) u, w.cell? a = some u → w'.cell? a = some u) : Holds w' v l := by
  obtain ⟨a, c, h1, h2, h3⟩ := h
  refine ⟨a, c, h1, h2, ?_⟩
  rcases h3 with h3 | ⟨ad, h3, h4⟩
  · exact .inl h3
  · exact .inr ⟨ad, h3, fun j u hj => hc _ _ (h4 j u hj)⟩
theorem Holds.below {w w' : World} {v : Value} {l : List Value} (h : Holds w v l) (hb : Below w.heap.size w w') : Holds w' v l :=
  h.kept fun a u ha => by rw [hb.cell (World.block_lt_of_cell? w a ha)]; exact ha
theorem Holds.drewN {w : World} {v : Value} {l : List Value} (h : Holds w v l) (n : Nat) : Holds (w.drewN n) v l := h
theorem Addr.add_block (a : Addr) (n : Nat) : (a.add n).block = a.block := by unfold Addr.add; split <;> rfl
theorem addr_add2 (a : Addr) (i j : Nat) : (a.add i).add j = a.add (i + j) := by
  unfold Addr.add
  by_cases h1 : i = 0
  · subst h1; simp
  · by_cases h2 : j = 0
    · subst h2; simp [h1]
    · simp [h1, h2, Nat.add_assoc]
theorem Addr.add_at (b o j : Nat) : (⟨b, o, none⟩ : Addr).add j = ⟨b, o + j, none⟩ := by simp [Addr.add]

/-- the j-th cell of what a slice holds -/
theorem Holds.cell {w : World} {ad : Addr} {n c : Nat} {xs : List Value} (h : Holds w (.slice (some ad) n c) xs) {j : Nat} {u : Value} (hj : xs[j]? = some u) : w.cell? (ad.add j) = some u := by
  obtain ⟨a, c', e, _, h3⟩ := h
  rcases h3 with ⟨rfl, _, _⟩ | ⟨ad', rfl, h4⟩
  · simp at e
  · simp only [Value.slice.injEq, Option.some.injEq] at e
    rw [e.1]; exact h4 j u hj
theorem Holds.ptr {w : World} {a : Option Addr} {n c : Nat} {xs : List Value} (h : Holds w (.slice a n c) xs) (hn : 0 < n) : ∃ ad, a = some ad := by
  obtain ⟨a', c', e, _, h3⟩ := h
  rcases h3 with ⟨rfl, rfl, _⟩ | ⟨ad', rfl, h4⟩
  · simp at e; omega
  · simp only [Value.slice.injEq] at e
    exact ⟨_, e.1⟩
theorem Holds.len {w : World} {a : Option Addr} {n c : Nat} {xs : List Value} (h : Holds w (.slice a n c) xs) : xs.length = n ∧ n ≤ c := by
  obtain ⟨a', c', e, h2, _⟩ := h
  simp only [Value.slice.injEq] at e
  obtain ⟨_, rfl, rfl⟩ := e
  exact ⟨rfl, h2⟩

theorem Holds.nil (w : World) : Holds w (.slice none 0 0) [] := ⟨none, 0, rfl, Nat.le_refl _, .inl ⟨rfl, rfl, rfl⟩⟩
theorem Holds.of_row {w : World} {base : Nat} {e : TypeId} {v : Value} {xs : List Value} (h : w.ownsRow base e 1 v xs.length xs) : Holds w v xs := by
  rcases h.2 with ⟨rfl, h2⟩ | ⟨g, cap, cur, rfl, hb, hg, h2, h3, h4, h5⟩
  · have : xs = [] := List.eq_nil_of_length_eq_zero h2
    subst this
    exact ⟨none, 0, rfl, Nat.le_refl _, .inl ⟨rfl, rfl, rfl⟩⟩
  · exact ⟨some ⟨g, 0, none⟩, cap, rfl, h2, .inr ⟨_, rfl, h.cells rfl⟩⟩
theorem Holds.of_heap {w : World} {b : Nat} {e : TypeId} {c : Array Value} {fr : Nat × Nat} {l : List Value} (h : w.heap[b]? = some (.cells c e fr)) (hc : c.toList = l) (n m : Nat) (hn : n = l.length) (hm : n ≤ m) : Holds w (.slice (some ⟨b, 0, none⟩) n m) l := by
  subst hn
  refine ⟨_, _, rfl, hm, .inr ⟨_, rfl, fun j u hj => ?_⟩⟩
  rw [Addr.add_at, Nat.zero_add, cell_of_row w _ _ _ _ _ h, ← Array.getElem?_toList, hc]
  exact hj
theorem Holds.take {w : World} {a : Option Addr} {n c : Nat} {l : List Value} (h : Holds w (.slice a n c) l) (m : Nat) (hm : m ≤ n) : Holds w (.slice a m c) (l.take m) := by
  obtain ⟨a', c', e, h1, h2⟩ := h
  simp only [Value.slice.injEq] at e
  obtain ⟨rfl, rfl, rfl⟩ := e
  have hl : (l.take m).length = m := by simp; omega
  refine ⟨a, c, by rw [hl], by omega, ?_⟩
  rcases h2 with ⟨rfl, rfl, rfl⟩ | ⟨ad, rfl, h3⟩
  · exact .inl ⟨rfl, by simp, rfl⟩
  · refine .inr ⟨ad, rfl, fun j u hj => h3 j u ?_⟩
    rw [List.getElem?_take] at hj
    split at hj
    · exact hj
    · cases hj
theorem Holds.drop {w : World} {ad : Addr} {n c : Nat} {l : List Value} (h : Holds w (.slice (some ad) n c) l) (m : Nat) (hm : m ≤ n) : Holds w (.slice (some (ad.add m)) (n - m) (c - m)) (l.drop m) := by
  obtain ⟨h1, h2⟩ := h.len
  have hl : (l.drop m).length = n - m := by simp; omega
  refine ⟨_, c - m, by rw [hl], by omega, .inr ⟨_, rfl, fun j u hj => ?_⟩⟩
  rw [List.getElem?_drop] at hj
  have := h.cell hj
  rwa [← addr_add2] at this

theorem ownsRow_form {w : World} {base : Nat} {e : TypeId} {size : Nat} {v : Value} {n : Nat} {xs : List Value} (h : w.ownsRow base e size v n xs) : ∃ a cap, v = .slice a n cap ∧ n ≤ cap ∧ cap ≤ maxLen := by
  rcases h.2 with ⟨rfl, rfl⟩ | ⟨g, cap, cur, rfl, _, _, h2, h3, _⟩
  · exact ⟨none, 0, rfl, Nat.le_refl _, Nat.zero_le _⟩
  · exact ⟨_, cap, rfl, h2, h3⟩
theorem ownsRow_rebase {w : World} {A B : Nat} {e : TypeId} {v : Value} {n : Nat} {xs : List Value} (h : w.ownsRow A e 1 v n xs) (hb : ∀ g, v.ownBlock = some g → B ≤ g) : w.ownsRow B e 1 v n xs := by
  refine ⟨h.1, ?_⟩
  rcases h.2 with h2 | ⟨g, cap, cur, rfl, _, r⟩
  · exact .inl h2
  · exact .inr ⟨g, cap, cur, rfl, hb g rfl, r⟩
theorem ownsRow_of_block {base : Nat} {e : TypeId} {size : Nat} {v : Value} {n : Nat} {xs : List Value} {w w' : World} (h : w.ownsRow base e size v n xs) (hb : ∀ g, v.ownBlock = some g → w'.heap[g]? = w.heap[g]?) : w'.ownsRow base e size v n xs := by
  refine ⟨h.1, ?_⟩
  rcases h.2 with h2 | ⟨g, cap, cur, rfl, hg, hh, r⟩
  · exact .inl h2
  · exact .inr ⟨g, cap, cur, rfl, hg, by rw [hb g rfl]; exact hh, r⟩
theorem ownsRow_below {base : Nat} {e : TypeId} {size : Nat} {v : Value} {n : Nat} {xs : List Value} {w w' : World} (h : w.ownsRow base e size v n xs) (hb : Below w.heap.size w w') : w'.ownsRow base e size v n xs :=
  ownsRow_of_block h fun g hg => hb.block g (h.lt g hg).2
/-- a row that is owned above n lies above n -/
theorem ownsRow_ge {base : Nat} {e : TypeId} {size : Nat} {v : Value} {n : Nat} {xs : List Value} {w : World} (h : w.ownsRow base e size v n xs) : ∀ g, v.ownBlock = some g → base ≤ g := fun g hg => (h.lt g hg).1

theorem alloc1 (w : World) (A : Obj) : (w.alloc A).heap[w.heap.size]? = some A := heap_alloc_new w A
theorem free_of_row {w : World} {g : Nat} {cs : Array Value} {t : TypeId} (h : w.heap[g]? = some (.cells cs t (0, 0))) (j : Nat) : w.frozen? ⟨g, j, none⟩ = false := by
  simp [World.frozen?, h]
theorem heap_set {w : World} {g j : Nat} {cs : Array Value} {t : TypeId} {fr : Nat × Nat} (h : w.heap[g]? = some (.cells cs t fr)) (v : Value) : (w.setCell ⟨g, j, none⟩ v).heap[g]? = some (.cells (cs.setIfInBounds j v) t fr) := by
  simp [World.setCell, Array.getElem?_modify, h]

section
variable {P : Program} (w : World)

/-- append of m elements of one cell each, from an address -/
theorem append_own (B : Nat) (t ty e : TypeId) (i : TypeInfo) (z : Value) (ht : P.underlying t = some (.slice e)) (hi : P.info? e = some i) (hz : i.zero = some z) (hsize : i.size = 1) (hby : i.bytes ≤ 8) (hzs : z.cells.size = 1)
    (v : Value) (n : Nat) (xs : List Value) (hown : w.ownsRow B e 1 v n xs) (hB : B ≤ w.heap.size)
    (a : Addr) (m c : Nat) (news : List Value) (hl : news.length = m) (hnews : ∀ j u, news[j]? = some u → w.cell? (a.add j) = some u) (h1 : ∀ u ∈ news, u.oneCell' = true)
    (hbytes : (n + m) * 8 ≤ 140737488355328) :
    ∃ v' w', (Builtin.append_ #[t, t] ty #[v, .slice (some a) m c]).run P w = .ok v' w' ∧ w'.ownsRow B e 1 v' (n + m) (xs ++ news) ∧ w.grownBy w' v.ownBlock ∧
      (v'.ownBlock = v.ownBlock ∨ v'.ownBlock = some w.heap.size) := by
  have hl1 : news.length = m * i.size := by rw [hsize, Nat.mul_one]; exact hl
  have hbb : (n + m) * i.bytes ≤ 140737488355328 := Nat.le_trans (Nat.mul_le_mul_left _ hby) hbytes
  have h63 : n + m ≤ maxLen := by unfold maxLen; omega
  obtain ⟨v', w', hr, h2, h3, _⟩ := run_append_own (P := P) w B t ty e i z 1 i.bytes ht hi hz hsize rfl hzs (by omega) v n xs hown a m c news (by omega) hnews h1 h63 hbb hB
  refine ⟨v', w', hr, h2, h3, ?_⟩
  rcases hown.2 with ⟨rfl, rfl⟩ | ⟨g, cap, cur, rfl, _, hg, hnc, hcm, hcs, htake⟩
  · by_cases hm : m = 0
    · subst hm
      have h4 := h2.2
      rcases h4 with ⟨rfl, _⟩ | ⟨g', cap', cur', rfl, _, _, _⟩
      · exact .inl rfl
      · have hr2 : (Builtin.append_ #[t, t] ty #[.slice none 0 0, .slice (some a) 0 c]).run P w = .ok (.slice none 0 0) w := by
          simp [Builtin.append_, run_underlying ht, sizeOf, typeInfo, hi, Builtin.lenOf, Builtin.firstCells, loadCells, loadCellsFrom]
        rw [hr2] at hr
        simp at hr
    · have hr2 := run_append_nil (P := P) w t ty e i z ht hi hz a m c news hl1 hnews (by omega) (by omega) (by have hb := hbb; rw [Nat.zero_add] at hb; omega)
      rw [hr2] at hr
      simp only [Result.ok.injEq] at hr
      exact .inr (by rw [← hr.1]; rfl)
  · by_cases hroom : n + m ≤ cap
    · have hr2 := run_append_room (P := P) w t ty e i ht hi g n cap cur hg a m c news hl1 hnews h1 hroom (by rw [hsize]; omega)
      rw [hr2] at hr
      simp only [Result.ok.injEq] at hr
      exact .inl (by rw [← hr.1]; rfl)
    · have holds : ∀ j u, xs[j]? = some u → w.cell? ((⟨g, 0, none⟩ : Addr).add j) = some u := hown.cells (g := g) rfl
      have hr2 := run_append_grow (P := P) w t ty e i z ht hi hz ⟨g, 0, none⟩ n cap xs (by rw [hsize]; exact hown.1) holds a m c news hl1 hnews (by omega) (by omega) (growslice_fits (by omega) hbb)
      rw [hr2] at hr
      simp only [Result.ok.injEq] at hr
      exact .inr (by rw [← hr.1]; rfl)

/-- append of a nil slice -/
theorem append_nilsrc (t ty e : TypeId) (i : TypeInfo) (ht : P.underlying t = some (.slice e)) (hi : P.info? e = some i) (b : Option Addr) (n cap c : Nat) (hn : n ≤ cap) :
    (Builtin.append_ #[t, t] ty #[.slice b n cap, .slice none 0 c]).run P w = .ok (.slice b n cap) w := by
  cases b <;> simp [Builtin.append_, run_underlying ht, sizeOf, typeInfo, hi, Builtin.lenOf, Builtin.firstCells, hn, storeCells]
end

/-- append onto a row of the call's own -/
theorem app_any {P : Program} {t e : TypeId} {z : Value} {by' : Nat} (ht : P.underlying t = some (.slice e)) (hinfo : (P.info? e).map (fun i => (i.zero, i.size, i.bytes)) = some (some z, 1, by')) (hby : by' ≤ 8) (hzs : z.cells.size = 1)
    {w : World} {B : Nat} {v : Value} {xs : List Value} (hown : w.ownsRow B e 1 v xs.length xs) (hB : B ≤ w.heap.size) {sv : Value} {l : List Value} (hs : Holds w sv l) (h1 : ∀ u ∈ l, u.oneCell' = true) (hlen : xs.length + l.length ≤ 17592186044416) :
    ∃ v' w', (∀ ty, (Builtin.append_ #[t, t] ty #[v, sv]).run P w = .ok v' w') ∧ w'.ownsRow B e 1 v' (xs ++ l).length (xs ++ l) ∧ w.grownBy w' v.ownBlock ∧ (v'.ownBlock = v.ownBlock ∨ v'.ownBlock = some w.heap.size) := by
  obtain ⟨i, hi, hz0, hz1, hz2⟩ := info_parts hinfo
  obtain ⟨a, c, rfl, hc, hcase⟩ := hs
  rcases hcase with ⟨rfl, rfl, rfl⟩ | ⟨ad, rfl, hcell⟩
  · obtain ⟨b, cap, rfl, hn, _⟩ := ownsRow_form hown
    refine ⟨_, w, fun ty => append_nilsrc w _ ty _ i ht hi b _ cap 0 hn, by simpa using hown, ⟨rfl, rfl, rfl, Nat.le_refl _, fun _ _ _ => rfl⟩, .inl rfl⟩
  · obtain ⟨v', w', hr, h2, h3, h4⟩ := append_own (P := P) w B t 0 e i z ht hi hz0 hz1 (by rw [hz2]; exact hby) hzs v xs.length xs hown hB ad l.length c l rfl hcell h1 (by omega)
    refine ⟨v', w', fun ty => ?_, ?_, h3, h4⟩
    · exact hr
    · rw [List.length_append]; exact h2

theorem wpList_append_run {P : Program} {w w' : World} {ops : Array Oper} {rest : List Oper} {o : Oper} {a : Act} {Q : Exit → Act → World → Prop} {sv xv v' : Value} (hgd : o.guard = none) (s x : Operand) (t : TypeId)
    (hop : o.op = .call { callee := .builtin .append, args := #[s, x], argTypes := #[t, t] }) (hs : a.eval s = sv) (hx : a.eval x = xv) (hrun : (Builtin.append_ #[t, t] o.type #[sv, xv]).run P w = .ok v' w')
    (hK : wpList P ops Q rest (a.put o.dst v') w') : wpList P ops Q (o :: rest) a w := by
  refine wpList_plain hgd fun K hKK => ?_
  unfold Oper.wp
  simp [execOp, hop, resolve, invoke, builtin, hs, hx, hrun, Result.andThen]
  exact hKK _ _ hK

/-- append as one step of a region that draws, guarded or not, its run being known -/
theorem step_append_want {P : Program} {ops : Array Oper} {o : Oper} {a : Act} {w w' : World} {K : Act → World → Prop} {Q : Exit → Act → World → Prop} {E : Prop} {sv xv v' : Value}
    (hw : Region.wanted o (yielded ops a.tmps) = true) (s x : Operand) (t : TypeId) (hop : o.op = Op.call { callee := Callee.builtin Builtin.append, args := #[s, x], argTypes := #[t, t] }) (hs : a.eval s = sv) (hx : a.eval x = xv)
    (hrun : (Builtin.append_ #[t, t] o.type #[sv, xv]).run P w = .ok v' w') (hK : K (a.put o.dst v') w') :
    if Region.wanted o (yielded ops a.tmps) = true then Oper.wp P o a w K Q else E := by
  rw [if_pos hw]
  unfold Oper.wp
  simp [execOp, hop, resolve, invoke, builtin, hs, hx, hrun, Result.andThen]
  exact hK
theorem step_append_run {P : Program} {ops : Array Oper} {o : Oper} {a : Act} {w w' : World} {K : Act → World → Prop} {Q : Exit → Act → World → Prop} {E : Prop} {sv xv v' : Value}
    (hg : o.guard = none) (s x : Operand) (t : TypeId) (hop : o.op = Op.call { callee := Callee.builtin Builtin.append, args := #[s, x], argTypes := #[t, t] }) (hs : a.eval s = sv) (hx : a.eval x = xv)
    (hrun : (Builtin.append_ #[t, t] o.type #[sv, xv]).run P w = .ok v' w') (hK : K (a.put o.dst v') w') :
    if Region.wanted o (yielded ops a.tmps) = true then Oper.wp P o a w K Q else E :=
  step_append_want (by simp [Region.wanted, hg]) s x t hop hs hx hrun hK

theorem freeze_new (w : World) (c : Array Value) (t : TypeId) (m : Nat) : (w.alloc (.cells c t)).freeze ⟨w.heap.size, m, none⟩ 1 = w.alloc (.cells c t (m, m + 1)) := by
  unfold World.freeze
  rw [if_neg (by omega)]
  have : (w.heap.push (.cells c t)).modify w.heap.size (fun
      | .cells c elem (lo, hi) => .cells c elem (if lo == hi then (m, m + 1) else (min lo m, max hi (m + 1)))
      | o => o) = w.heap.push (.cells c t (m, m + 1)) := by
    apply Array.ext_getElem?
    intro i
    simp only [Array.getElem?_modify, Array.getElem?_push]
    by_cases h : w.heap.size = i
    · subst h; simp
    · have h' : ¬ i = w.heap.size := fun e => h e.symm
      simp [h, h']
  show ({ w with heap := _ } : World) = { w with heap := _ }
  rw [← this]
  rfl

theorem below_grown {w w' : World} {o : Option Nat} {B : Nat} (h : w.grownBy w' o) (hB : B ≤ w.heap.size) (ho : ∀ g, o = some g → B ≤ g) : Below B w w' :=
  ⟨h.os, h.tape, h.output, h.size, fun k hk => h.block k (by omega) (fun e => by have := ho k e.symm; omega)⟩

/-- the bytes of a slice as a text -/
theorem str_of_holds {P : Program} {tb te ts : TypeId} (hb : P.underlying tb = some (.slice te)) (he : P.underlying te = some (.int .u8)) (hs : P.underlying ts = some .string) {w : World} {v : Value} {l : List UInt8} (h : Holds w v (u8s l)) :
    (convert tb ts v).run P w = .ok (.string ⟨l.toArray⟩) w := by
  obtain ⟨a, c, rfl, _, h2⟩ := h
  rw [u8s_len]
  rcases h2 with ⟨rfl, h3, rfl⟩ | ⟨ad, rfl, hc⟩
  · have : l = [] := by cases l with
      | nil => rfl
      | cons x y => simp [u8s] at h3
    subst this
    exact run_convert_bytes_nil w _ _ hb he 0 0 _ hs
  · have hl : (loadCells ad l.length).run P w = .ok ((l.map fun c => (c.toNat : Int)).map (Value.int .u8)).toArray w := by
      have := run_loadCells_list (P := P) w ad (u8s l) hc
      simpa [u8s, List.map_map, Function.comp_def] using this
    rw [run_convert_bytes_string w _ _ _ _ _ _ hb he hs, run_bytesToString w _ _ _ _ hl, foldl_push_bytes]
    congr 2
    have e : (List.map (fun n : Int => UInt8.ofNat n.toNat) (List.map (fun c : UInt8 => (c.toNat : Int)) l)) = l := by
      rw [List.map_map]
      conv => rhs; rw [← List.map_id l]
      apply List.map_congr_left
      intro c _
      simp
    rw [e]
    apply ByteArray.ext
    simp [ByteArray.empty, ByteArray.emptyWithCapacity]
    rfl

/-- what is known of a slice of integers that came in -/
def IsRow (k : IntKind) (w : World) (a : Option Addr) (len cap : Nat) (zs : List Int) : Prop :=
  (a = none ∧ len = 0 ∧ cap = 0 ∧ zs = []) ∨
  ∃ x, a = some x ∧ len ≤ cap ∧ cap ≤ maxLen ∧ zs.length = cap ∧ (∀ i, i < zs.length → w.cell? (x.add i) = some (.int k (zs.getD i 0))) ∧ ∀ n ∈ zs, (Lit.int k n).wf = true

/-- a slice of integers that came in: the values -/
theorem isRow_vals {k : IntKind} {w : World} {a : Option Addr} {len cap : Nat} {zs : List Int} (h : IsRow k w a len cap zs) : ∃ l : List Int, l.length = len ∧ Holds w (.slice a len cap) (l.map (Value.int k)) ∧ (∀ n ∈ l, (Lit.int k n).wf = true) ∧
    ∀ (ad : Addr) (n c : Nat), Value.slice a len cap = .slice (some ad) n c → n ≠ 0 → ad.block < w.heap.size := by
  rcases h with ⟨rfl, rfl, rfl, rfl⟩ | ⟨x, rfl, h1, h2, h3, h4, h5⟩
  · exact ⟨[], rfl, Holds.nil w, fun n hn => by simp at hn, fun ad n c e => by simp at e⟩
  · have hlen : (zs.take len).length = len := by simp; omega
    have hc : ∀ i, i < len → w.cell? (x.add i) = some (.int k (zs.getD i 0)) := fun i hi => h4 i (by omega)
    refine ⟨zs.take len, hlen, ⟨some x, cap, by rw [List.length_map, hlen], by rw [List.length_map, hlen]; omega, .inr ⟨x, rfl, fun j u hj => ?_⟩⟩, fun n hn => h5 n (List.mem_of_mem_take hn), fun ad n c e hn => ?_⟩
    · rw [List.getElem?_map, List.getElem?_take] at hj
      have hj2 : j < len := by
        rcases Nat.lt_or_ge j len with g | g
        · exact g
        · rw [if_neg (by omega)] at hj; simp at hj
      rw [if_pos hj2, List.getElem?_eq_getElem (by omega)] at hj
      rw [hc j hj2, List.getD_eq_getElem?_getD, List.getElem?_eq_getElem (by omega)]
      simpa using hj
    · simp only [Value.slice.injEq, Option.some.injEq] at e
      obtain ⟨rfl, rfl, _⟩ := e
      have := World.block_lt_of_cell? w _ (hc 0 (by omega))
      rwa [Addr.add_block] at this
theorem bounds_of_u8 {n : Int} (h : (Lit.int .u8 n).wf = true) : 0 ≤ n ∧ n < 256 := by have := bounds_u8 h; omega
theorem bounds_of_u64 {n : Int} (h : (Lit.int .u64 n).wf = true) : 0 ≤ n ∧ n < 18446744073709551616 := by have := bounds_u64 h; omega
theorem bounds_of_i64 {n : Int} (h : (Lit.int .i64 n).wf = true) : -9223372036854775808 ≤ n ∧ n < 9223372036854775808 := by have := bounds_i64 h; omega
theorem vals_u8 {l : List Int} (h : ∀ n ∈ l, (Lit.int .u8 n).wf = true) : ∃ m : List UInt8, l.map (Value.int .u8) = u8s m ∧ m.length = l.length := by
  refine ⟨l.map fun n => UInt8.ofNat n.toNat, ?_, by simp⟩
  unfold u8s
  rw [List.map_map]
  apply List.map_congr_left
  intro n hn
  have := bounds_of_u8 (h n hn)
  simp
  omega
theorem vals_u64 {l : List Int} (h : ∀ n ∈ l, (Lit.int .u64 n).wf = true) : ∃ m : List UInt64, l.map (Value.int .u64) = u64s m ∧ m.length = l.length := by
  refine ⟨l.map fun n => UInt64.ofNat n.toNat, ?_, by simp⟩
  unfold u64s
  rw [List.map_map]
  apply List.map_congr_left
  intro n hn
  have := bounds_of_u64 (h n hn)
  simp
  omega
theorem isRow_u8 {w : World} {a : Option Addr} {len cap : Nat} {zs : List Int} (h : IsRow .u8 w a len cap zs) : ∃ l : List UInt8, l.length = len ∧ Holds w (.slice a len cap) (u8s l) ∧ ∀ (ad : Addr) (n c : Nat), Value.slice a len cap = .slice (some ad) n c → n ≠ 0 → ad.block < w.heap.size := by
  obtain ⟨l, h1, h2, h3, h4⟩ := isRow_vals h
  obtain ⟨m, e1, e2⟩ := vals_u8 h3
  exact ⟨m, by omega, e1 ▸ h2, h4⟩
theorem isRow_u64 {w : World} {a : Option Addr} {len cap : Nat} {zs : List Int} (h : IsRow .u64 w a len cap zs) : ∃ l : List UInt64, l.length = len ∧ Holds w (.slice a len cap) (u64s l) ∧ ∀ (ad : Addr) (n c : Nat), Value.slice a len cap = .slice (some ad) n c → n ≠ 0 → ad.block < w.heap.size := by
  obtain ⟨l, h1, h2, h3, h4⟩ := isRow_vals h
  obtain ⟨m, e1, e2⟩ := vals_u64 h3
  exact ⟨m, by omega, e1 ▸ h2, h4⟩
theorem isRow_i64 {w : World} {a : Option Addr} {len cap : Nat} {zs : List Int} (h : IsRow .i64 w a len cap zs) : ∃ l : List Int, l.length = len ∧ Holds w (.slice a len cap) (i64s l) ∧ (∀ n ∈ l, -9223372036854775808 ≤ n ∧ n < 9223372036854775808) ∧ ∀ (ad : Addr) (n c : Nat), Value.slice a len cap = .slice (some ad) n c → n ≠ 0 → ad.block < w.heap.size := by
  obtain ⟨l, h1, h2, h3, h4⟩ := isRow_vals h
  exact ⟨l, h1, h2, fun n hn => bounds_of_i64 (h3 n hn), h4⟩
end Go.Proofs.YtlhpbfjelgmkeaaGreat
