/- The texts HeavyPlain HeavySk HeavyCtr HeavyTake HeavyIns HeavyTop HeavyMerge, one behind the other; each one's own comment says what it holds. -/
import Derived.Test.YtlhpbfjelgmkeaaGreatGen
import Derived.Maps.OwnSet
import Derived.Maps.RangeWalk
import Derived.Maps.Ext
import Derived.Lib.SlMapFilter
import Derived.Test.YtlhpbfjelgmkeaaGreatThings
import Derived.Test.YtlhpbfjelgmkeaaGreatStable
import Derived.Sort.OwnSorted
import Derived.Test.YtlhpbfjelgmkeaaGreatShelfD
import Derived.Test.YtlhpbfjelgmkeaaGreatShelf
import Derived.Outline
import Derived.BigRegion
/- Counters as a list by id: plain mathematics of the sketch of package heavy, and of a map of ints. Conditions: none. -/
set_option maxRecDepth 100000
namespace Go.Proofs.YtlhpbfjelgmkeaaGreat.Hvy
open Go.RowKit Go.Maps Go.Sort

abbrev CL := List (Int × Int)
/-- ids rise -/
def Asc (L : CL) : Prop := L.Pairwise fun p q => p.1 < q.1
/-- how often an id came -/
def cnt : CL → Int → Int
  | [], _ => 0
  | p :: r, id => if p.1 = id then p.2 else cnt r id
/-- an id's count anew -/
def putL (id c : Int) : CL → CL
  | [] => [(id, c)]
  | p :: r => if id < p.1 then (id, c) :: p :: r else if p.1 = id then (id, c) :: r else p :: putL id c r

theorem asc_tail {p : Int × Int} {r : CL} (h : Asc (p :: r)) : Asc r := (List.pairwise_cons.1 h).2
theorem asc_head {p : Int × Int} {r : CL} (h : Asc (p :: r)) : ∀ q ∈ r, p.1 < q.1 := (List.pairwise_cons.1 h).1
theorem cnt_none {L : CL} {id : Int} (h : ∀ p ∈ L, p.1 ≠ id) : cnt L id = 0 := by
  induction L with
  | nil => rfl
  | cons p r ih =>
    unfold cnt
    rw [if_neg (h p (List.mem_cons_self ..))]
    exact ih fun q hq => h q (List.mem_cons_of_mem _ hq)
theorem cnt_mem {L : CL} (hA : Asc L) {id c : Int} (h : (id, c) ∈ L) : cnt L id = c := by
  induction L with
  | nil => cases h
  | cons p r ih =>
    unfold cnt
    rcases List.mem_cons.1 h with rfl | h
    · rw [if_pos rfl]
    · rw [if_neg (by have := asc_head hA _ h; simp only at this; omega)]
      exact ih (asc_tail hA) h
theorem mem_of_cnt {L : CL} {id : Int} (h : cnt L id ≠ 0) : (id, cnt L id) ∈ L := by
  induction L with
  | nil => exact absurd rfl h
  | cons p r ih =>
    unfold cnt at h ⊢
    by_cases e : p.1 = id
    · rw [if_pos e] at h ⊢
      obtain ⟨a, b⟩ := p
      simp only at e
      subst e
      exact List.mem_cons_self ..
    · rw [if_neg e] at h ⊢
      exact List.mem_cons_of_mem _ (ih h)
theorem putL_mem {L : CL} {id c : Int} {p : Int × Int} (h : p ∈ putL id c L) : p = (id, c) ∨ (p ∈ L ∧ p.1 ≠ id) ∨ (p ∈ L ∧ p.1 = id ∧ False) ∨ p ∈ L := by
  induction L with
  | nil => simp [putL] at h; exact .inl h
  | cons q r ih =>
    unfold putL at h
    split at h
    · rcases List.mem_cons.1 h with rfl | h
      · exact .inl rfl
      · exact .inr (.inr (.inr h))
    · split at h
      · rcases List.mem_cons.1 h with rfl | h
        · exact .inl rfl
        · exact .inr (.inr (.inr (List.mem_cons_of_mem _ h)))
      · rcases List.mem_cons.1 h with rfl | h
        · exact .inr (.inr (.inr (List.mem_cons_self ..)))
        · rcases ih h with e | e | e | e
          · exact .inl e
          · exact .inr (.inr (.inr (List.mem_cons_of_mem _ e.1)))
          · exact e.2.2.elim
          · exact .inr (.inr (.inr (List.mem_cons_of_mem _ e)))
theorem putL_sub {L : CL} {id c : Int} {p : Int × Int} (h : p ∈ putL id c L) : p = (id, c) ∨ p ∈ L := by
  rcases putL_mem h with e | e | e | e
  · exact .inl e
  · exact .inr e.1
  · exact .inr e.1
  · exact .inr e
theorem asc_putL {L : CL} (hA : Asc L) (id c : Int) : Asc (putL id c L) := by
  induction L with
  | nil => exact List.pairwise_singleton _ _
  | cons q r ih =>
    have h1 := asc_head hA
    have h2 := asc_tail hA
    unfold putL
    split
    · rename_i g
      refine List.pairwise_cons.2 ⟨fun x hx => ?_, hA⟩
      rcases List.mem_cons.1 hx with rfl | hx
      · exact g
      · exact Int.lt_trans g (h1 x hx)
    · split
      · rename_i g
        refine List.pairwise_cons.2 ⟨fun x hx => ?_, h2⟩
        rw [← g]; exact h1 x hx
      · rename_i g1 g2
        refine List.pairwise_cons.2 ⟨fun x hx => ?_, ih h2⟩
        rcases putL_sub hx with rfl | hx
        · show q.1 < id; omega
        · exact h1 x hx
theorem putL_len (L : CL) (id c : Int) : (putL id c L).length ≤ L.length + 1 := by
  induction L with
  | nil => exact Nat.le_refl _
  | cons q r ih =>
    unfold putL
    split
    · simp
    · split
      · simp
      · simp; omega
theorem putL_len_mem {L : CL} (hA : Asc L) {id : Int} {c : Int} (h : ∃ p ∈ L, p.1 = id) : (putL id c L).length = L.length := by
  induction L with
  | nil => obtain ⟨p, hp, _⟩ := h; cases hp
  | cons q r ih =>
    obtain ⟨p, hp, e⟩ := h
    unfold putL
    rcases List.mem_cons.1 hp with rfl | hp
    · rw [if_neg (by omega), if_pos e]; simp
    · have := asc_head hA p hp
      rw [if_neg (by omega), if_neg (by omega)]
      simp [ih (asc_tail hA) ⟨p, hp, e⟩]
theorem putL_at {A B : CL} {id c0 c : Int} (h : Asc (A ++ (id, c0) :: B)) : putL id c (A ++ (id, c0) :: B) = A ++ (id, c) :: B := by
  induction A with
  | nil =>
    show putL id c ((id, c0) :: B) = _
    unfold putL
    rw [if_neg (by simp), if_pos rfl]; rfl
  | cons q r ih =>
    have h1 := asc_head h (id, c0) (by simp)
    show putL id c (q :: (r ++ (id, c0) :: B)) = _
    unfold putL
    simp only at h1
    rw [if_neg (by omega), if_neg (by omega), ih (asc_tail h)]; rfl
theorem cnt_putL {L : CL} (hA : Asc L) (id c x : Int) : cnt (putL id c L) x = if x = id then c else cnt L x := by
  induction L with
  | nil => simp [putL, cnt, eq_comm]
  | cons q r ih =>
    unfold putL
    split
    · rename_i g
      show (if id = x then c else cnt (q :: r) x) = _
      by_cases e : x = id
      · rw [if_pos e, if_pos e.symm]
      · rw [if_neg e, if_neg (fun h => e h.symm)]
    · split
      · rename_i g1 g2
        show (if id = x then c else cnt r x) = _
        by_cases e : x = id
        · rw [if_pos e, if_pos e.symm]
        · rw [if_neg e, if_neg (fun h => e h.symm)]
          show _ = if q.1 = x then q.2 else cnt r x
          rw [if_neg (by omega)]
      · rename_i g1 g2
        show (if q.1 = x then q.2 else cnt (putL id c r) x) = if x = id then c else if q.1 = x then q.2 else cnt r x
        rw [ih (asc_tail hA)]
        by_cases e : q.1 = x
        · rw [if_pos e, if_pos e, if_neg (by omega)]
        · rw [if_neg e, if_neg e]

/-- the datum that a map of ints reads as -/
def ent (p : Int × Int) : Lit × DataW Unit := (.int .i64 p.1, .lit (.int .i64 p.2))
def mapD (L : CL) : DataW Unit := .map (L.map ent)
theorem same_int (a b : Int) : (Lit.int .i64 a).sameKey (.int .i64 b) = decide (a = b) := by simp [Lit.sameKey]
theorem before_int (a b : Int) : (Lit.int .i64 a).before (.int .i64 b) = decide (a < b) := rfl
theorem find_ent (L : CL) (id : Int) : (L.map ent).find? (fun p => p.1.sameKey (.int .i64 id)) = (L.find? fun p => decide (p.1 = id)).map ent := by
  have e : ((fun p : Lit × DataW Unit => p.1.sameKey (.int .i64 id)) ∘ ent) = fun p => decide (p.1 = id) := funext fun p => same_int _ _
  rw [List.find?_map, e]
theorem atKey_mapD (L : CL) (id : Int) : (mapD L).atKey (.int .i64 id) (.lit (.int .i64 0)) = .lit (.int .i64 (cnt L id)) := by
  unfold mapD DataW.atKey
  simp only [find_ent]
  induction L with
  | nil => rfl
  | cons p r ih =>
    unfold cnt
    by_cases e : p.1 = id
    · simp [e, ent]
    · simp only [List.find?_cons, e, decide_false, if_false]
      exact ih
theorem atKey_some {L : CL} {id c : Int} (h : ∀ zd, (mapD L).atKey (.int .i64 id) zd = .lit (.int .i64 c)) : (id, c) ∈ L := by
  have h1 := h .nil
  unfold mapD DataW.atKey at h1
  simp only [find_ent] at h1
  cases hf : L.find? fun p => decide (p.1 = id) with
  | none => rw [hf] at h1; simp at h1
  | some p =>
    rw [hf] at h1
    simp [ent] at h1
    have h2 := List.find?_some hf
    simp at h2
    have h3 := List.mem_of_find?_eq_some hf
    obtain ⟨a, b⟩ := p
    simp only at h1 h2
    subst h1 h2
    exact h3
theorem has_mapD (L : CL) (id : Int) : has (mapD L) (.int .i64 id) = L.any fun p => decide (p.1 = id) := by
  have e : ((fun p : Lit × DataW Unit => p.1.sameKey (.int .i64 id)) ∘ ent) = fun p => decide (p.1 = id) := funext fun p => same_int _ _
  show (L.map ent).any (fun p => p.1.sameKey (.int .i64 id)) = _
  rw [List.any_map, e]
theorem size_mapD (L : CL) : size (mapD L) = L.length := by simp [mapD, size]
theorem put_mapD {L : CL} (hA : Asc L) (id c : Int) : (mapD L).put (.int .i64 id) (.lit (.int .i64 c)) = mapD (putL id c L) := by
  unfold mapD DataW.put
  simp only
  congr 1
  induction L with
  | nil => rfl
  | cons p r ih =>
    have h1 := asc_head hA
    have keep : ∀ (l : CL), (∀ q ∈ l, q.1 ≠ id) → (l.map ent).filter (fun p => !p.1.sameKey (.int .i64 id)) = l.map ent := fun l hl => by
      rw [List.filter_eq_self]
      intro x hx
      obtain ⟨q, hq, rfl⟩ := List.mem_map.1 hx
      simp [ent, same_int, hl q hq]
    unfold putL
    by_cases g1 : id < p.1
    · rw [if_pos g1, keep (p :: r) (fun q hq => by
        rcases List.mem_cons.1 hq with rfl | hq
        · omega
        · have := h1 q hq; omega)]
      simp [DataW.insert, ent, before_int, g1]
    · rw [if_neg g1]
      by_cases g2 : p.1 = id
      · rw [if_pos g2, List.map_cons, List.filter_cons_of_neg (by simp [ent, same_int, g2]), keep r (fun q hq => by have := h1 q hq; omega)]
        cases r with
        | nil => rfl
        | cons q r' =>
          have := h1 q (List.mem_cons_self ..)
          simp only [List.map_cons, DataW.insert, ent, before_int]
          have g3 : decide (id < q.1) = true := decide_eq_true (by omega)
          exact if_pos g3
      · rw [if_neg g2, List.map_cons, List.filter_cons_of_pos (by simp [ent, same_int, g2])]
        simp only [DataW.insert]
        rw [if_neg (by simp [ent, before_int]; omega), ih (asc_tail hA)]
        rfl

theorem KI : Keyed Tryz.prog 3 := int_keyed Tryz.underlying3
/-- a whole number of 64 bits -/
def InI (n : Int) : Prop := -9223372036854775808 ≤ n ∧ n ≤ 9223372036854775807
theorem InI.wf {n : Int} (h : InI n) : (Lit.int .i64 n).wf = true := Go.WalkArith.wf_i64 h
theorem zero_int (w : World) : (zeroValue 3).run Tryz.prog w = .ok (.int .i64 0) w := by kernel_rfl

/-- at block b lies a map that holds these counters -/
structure MapAt (w : World) (b : Nat) (L : CL) : Prop where
  asc : Asc L
  inI : ∀ p ∈ L, InI p.1 ∧ InI p.2
  own : w.ownsMap Tryz.prog 3 (plainElem Tryz.prog 3) b L.length (mapD L)

theorem own_tight {w : World} {b n : Nat} {L : CL} (h : w.ownsMap Tryz.prog 3 (plainElem Tryz.prog 3) b n (mapD L)) : w.ownsMap Tryz.prog 3 (plainElem Tryz.prog 3) b L.length (mapD L) := by
  obtain ⟨es, clock, hb, F, _, hD⟩ := h
  refine ⟨es, clock, hb, F, ?_, hD⟩
  have e := congrArg size hD
  rw [size_mapD, size_eq, length_sorted] at e
  simp at e
  omega
theorem MapAt.of_block {w w' : World} {b : Nat} {L : CL} (h : MapAt w b L) (hb : w'.heap[b]? = w.heap[b]?) : MapAt w' b L := by
  obtain ⟨es, clock, h1, h2⟩ := h.own
  exact ⟨h.asc, h.inI, es, clock, hb.trans h1, h2⟩
theorem MapAt.lt {w : World} {b : Nat} {L : CL} (h : MapAt w b L) : b < w.heap.size := h.own.lt
theorem MapAt.made (w : World) : MapAt (w.alloc (.map #[] 0)) w.heap.size [] := ⟨List.Pairwise.nil, (fun p hp => by cases hp), World.ownsMap_made w _ _ _⟩
theorem MapAt.lookup {w : World} {b : Nat} {L : CL} (h : MapAt w b L) {id : Int} (hid : InI id) :
    (Instr.lookup 201 (.map (some b)) (.int .i64 id) false).run Tryz.prog w = .ok (.int .i64 (cnt L id)) w := by
  obtain ⟨c, h1, h2, _⟩ := h.own.lookup_int KI Tryz.underlying201 Tryz.underlying3 (zero_int w) (keyOf_int_mk Tryz.underlying3 hid.wf)
  rw [atKey_mapD] at h2
  simp at h2
  rw [h1, h2]
theorem MapAt.len {w : World} {b : Nat} {L : CL} (h : MapAt w b L) (ty : TypeId) : (Builtin.len_ #[201] ty #[.map (some b)]).run Tryz.prog w = .ok (.int .i64 L.length) w := by
  have := h.own.len Tryz.underlying201 ty
  rwa [size_mapD] at this
theorem MapAt.update {w : World} {b : Nat} {L : CL} (h : MapAt w b L) {id c : Int} (hid : InI id) (hc : InI c) (hl : L.length < maxLen) :
    ∃ w', (Instr.mapUpdate 201 (.map (some b)) (.int .i64 id) (.int .i64 c)).run Tryz.prog w = .ok () w' ∧ MapAt w' b (putL id c L) ∧ w.grownBy w' (some b) := by
  obtain ⟨w', h1, h2, h3⟩ := h.own.update KI Tryz.underlying201 hl (keyOf_int_mk Tryz.underlying3 hid.wf) (plainElem_int Tryz.underlying3 hc.wf)
  rw [put_mapD h.asc] at h2
  refine ⟨w', h1, ⟨asc_putL h.asc id c, fun p hp => ?_, own_tight h2⟩, h3⟩
  rcases putL_sub hp with rfl | hp
  · exact ⟨hid, hc⟩
  · exact h.inI p hp
end Go.Proofs.YtlhpbfjelgmkeaaGreat.Hvy
/- What a sketch of package heavy is in memory; rows of counters. Conditions: none. -/
set_option maxRecDepth 100000
namespace Go.Proofs.YtlhpbfjelgmkeaaGreat.Hvy
open Go.RowKit Go.Maps Go.Sort

def flatP (L : CL) : List Value := L.flatMap encP
theorem flatP_len : ∀ L : CL, (flatP L).length = L.length * 2
  | [] => rfl
  | p :: r => by
    have := flatP_len r
    unfold flatP at this ⊢
    rw [List.flatMap_cons, List.length_append, this, List.length_cons, encP_len]
    omega
theorem flatP_snoc (L : CL) (p : Int × Int) : flatP (L ++ [p]) = flatP L ++ encP p := by simp [flatP]
theorem flatP_one (L : CL) : ∀ u ∈ flatP L, u.oneCell' = true := fun u hu => by
  obtain ⟨p, _, hp⟩ := List.mem_flatMap.1 hu
  exact encP_one p u hp
theorem flatP_at : ∀ (L : CL) (k : Nat) (p : Int × Int), L[k]? = some p → (flatP L)[k * 2]? = some (.int .i64 p.1) ∧ (flatP L)[k * 2 + 1]? = some (.int .i64 p.2)
  | [], k, p, h => by simp at h
  | q :: r, 0, p, h => by
    simp at h
    subst h
    simp [flatP, encP]
  | q :: r, k + 1, p, h => by
    have := flatP_at r k p (by simpa using h)
    unfold flatP at this ⊢
    rw [List.flatMap_cons, show (k + 1) * 2 = k * 2 + 2 by omega, show k * 2 + 2 + 1 = (k * 2 + 1) + 2 by omega]
    exact this

/-- at block g lie these counters, from its head on -/
def RowP (w : World) (g : Nat) (L : CL) : Prop := HoldsK encP 2 w g 0 L.toArray ∧ g < w.heap.size
theorem RowP.cell {w : World} {g : Nat} {L : CL} (h : RowP w g L) {k : Nat} {p : Int × Int} (hp : L[k]? = some p) :
    w.cell? ⟨g, k * 2, none⟩ = some (.int .i64 p.1) ∧ w.cell? ⟨g, k * 2 + 1, none⟩ = some (.int .i64 p.2) ∧ w.frozen? ⟨g, k * 2, none⟩ = false ∧ w.frozen? ⟨g, k * 2 + 1, none⟩ = false := by
  obtain ⟨hk, e⟩ := List.getElem?_eq_some_iff.1 hp
  have h0 := h.1.cell (i := k) (c := 0) (by simpa using hk) (by omega)
  have h1 := h.1.cell (i := k) (c := 1) (by simpa using hk) (by omega)
  have e2 : L.toArray[k]! = p := by rw [getElem!_pos _ k (by simpa using hk)]; simpa using e
  rw [e2] at h0 h1
  simp only [Nat.zero_add, Nat.add_zero] at h0 h1
  exact ⟨h0.1, h1.1, h0.2, h1.2⟩
theorem row_of_owns {w : World} {B g c : Nat} {L : CL} (h : w.ownsRow B 344 2 (.slice (some ⟨g, 0, none⟩) L.length c) L.length (flatP L)) : RowP w g L := by
  have hc := h.cells (g := g) rfl
  have hf : ∀ o, w.frozen? ⟨g, o, none⟩ = false := fun o => by
    rcases h.2 with ⟨e, _⟩ | ⟨g', cap, cur, e, _, hg, _⟩
    · simp at e
    · simp at e
      obtain ⟨rfl, _⟩ := e
      exact free_of_row hg o
  refine ⟨fun j hj => ?_, (h.lt g rfl).2⟩
  rw [size_flatK] at hj
  have hj' : j / 2 < L.length := by simp at hj; omega
  obtain ⟨p, hp, e2⟩ : ∃ p, L[j / 2]? = some p ∧ L.toArray[j / 2]! = p := ⟨L[j / 2], List.getElem?_eq_getElem hj', by rw [getElem!_pos _ _ (by simpa using hj')]; simp⟩
  obtain ⟨a0, a1⟩ := flatP_at L (j / 2) _ hp
  refine ⟨?_, by rw [Nat.zero_add]; exact hf j⟩
  rw [get_flatK _ _ _ _ hj, e2, Nat.zero_add]
  rcases (by omega : j % 2 = 0 ∨ j % 2 = 1) with e | e
  · rw [e]
    have := hc (j / 2 * 2) _ a0
    rw [Addr.add_at, Nat.zero_add, show j / 2 * 2 = j by omega] at this
    exact this
  · rw [e]
    have := hc (j / 2 * 2 + 1) _ a1
    rw [Addr.add_at, Nat.zero_add, show j / 2 * 2 + 1 = j by omega] at this
    exact this
theorem RowP.of_block {w w' : World} {g : Nat} {L : CL} (h : RowP w g L) (hb : w'.heap[g]? = w.heap[g]?) (hs : w.heap.size ≤ w'.heap.size) : RowP w' g L :=
  ⟨fun j hj => by rw [World.cell?_of_block (w := w) hb, World.frozen?_of_block (w := w) hb]; exact h.1 j hj, Nat.lt_of_lt_of_le h.2 hs⟩
theorem RowP.below {w w' : World} {g : Nat} {L : CL} (h : RowP w g L) (hb : Below w.heap.size w w') : RowP w' g L := h.of_block (hb.block g h.2) hb.size

/-- behind a sort: the row, and what is as it was -/
theorem row_of_swk {w w' : World} {g : Nat} {L L' : CL} (h : RowP w g L) (hs : SWK encP 2 w g 0 L'.toArray w') (hl : L'.length = L.length) : RowP w' g L' ∧ w.grownBy w' (some g) := by
  have hd : L'.toArray.size = L.toArray.size := by simp [hl]
  refine ⟨⟨hs.holds h.2 h.1 hd, hs.lt h.2⟩, ?_⟩
  obtain ⟨n, os, rfl⟩ := hs
  refine ⟨rfl, rfl, rfl, by unfold sortWorldK; rw [size_grow, size_putRowK]; exact Nat.le_add_right _ _, fun k hk hne => ?_⟩
  unfold sortWorldK
  rw [heap_grow_old _ _ (by rw [size_putRowK]; exact hk)]
  have : g ≠ k := fun e => hne (by rw [e])
  simp [putRowK, putRow, mapBlock, Sort.ahead, Array.getElem?_modify, this]

/-- a sketch, as plain lists -/
structure HV where
  m : Nat
  n : Nat
  L : CL
def total (L : CL) : Int := (L.map Prod.snd).sum

structure HV.Good (V : HV) : Prop where
  m1 : 1 ≤ V.m
  m64 : V.m ≤ 64
  n50 : V.n ≤ 1125899906842624
  len : V.L.length ≤ V.m
  pos : ∀ p ∈ V.L, 1 ≤ p.2
  sum : total V.L ≤ V.n

theorem total_cons (p : Int × Int) (r : CL) : total (p :: r) = p.2 + total r := by simp [total]
theorem total_nonneg {L : CL} (h : ∀ p ∈ L, 1 ≤ p.2) : 0 ≤ total L := by
  induction L with
  | nil => exact Int.le_refl _
  | cons p r ih =>
    have := h p (List.mem_cons_self ..)
    have := ih fun q hq => h q (List.mem_cons_of_mem _ hq)
    rw [total_cons]; omega
theorem le_total {L : CL} (h : ∀ p ∈ L, 1 ≤ p.2) : ∀ p ∈ L, p.2 ≤ total L := by
  induction L with
  | nil => intro p hp; cases hp
  | cons q r ih =>
    intro p hp
    have h1 := h q (List.mem_cons_self ..)
    have h2 := total_nonneg fun x hx => h x (List.mem_cons_of_mem _ hx)
    rw [total_cons]
    rcases List.mem_cons.1 hp with rfl | hp
    · omega
    · have := ih (fun x hx => h x (List.mem_cons_of_mem _ hx)) p hp; omega

structure HkAt (T : Tags) (i : Nat) (w : World) (p m n b : Nat) (L : CL) : Prop where
  head : w.heap[p]? = some (.cells #[.int .i64 m, .int .i64 n, .map (some b)] 203 (0, 0))
  tp : T p = some i
  map : MapAt w b L
  tb : T b = some i
/-- a sketch in memory -/
def Hk (p : Nat) (V : HV) : Thing := fun T i w => ∃ b, HkAt T i w p V.m V.n b V.L ∧ V.Good
theorem Hk.framed (p : Nat) (V : HV) : Framed (Hk p V) := by
  rintro T T' i w w' ⟨b, h, hG⟩ hT hw
  exact ⟨b, ⟨(hw p (lt_of_heap h.head) (.inr h.tp)).trans h.head, (hT p (lt_of_heap h.head)).trans h.tp, h.map.of_block (hw b h.map.lt (.inr h.tb)), (hT b h.map.lt).trans h.tb⟩, hG⟩
theorem HkAt.ne {T : Tags} {i : Nat} {w : World} {p m n b : Nat} {L : CL} (h : HkAt T i w p m n b L) : p ≠ b := by
  rintro rfl
  obtain ⟨es, clock, h1, _⟩ := h.map.own
  rw [h.head] at h1
  cases h1
theorem HkAt.cells {T : Tags} {i : Nat} {w : World} {p m n b : Nat} {L : CL} (h : HkAt T i w p m n b L) :
    w.cell? ⟨p, 0, none⟩ = some (.int .i64 m) ∧ w.cell? ⟨p, 1, none⟩ = some (.int .i64 n) ∧ w.cell? ⟨p, 2, none⟩ = some (.map (some b)) ∧ ∀ j, w.frozen? ⟨p, j, none⟩ = false :=
  ⟨by rw [cell_of_row _ _ _ _ _ _ h.head]; rfl, by rw [cell_of_row _ _ _ _ _ _ h.head]; rfl, by rw [cell_of_row _ _ _ _ _ _ h.head]; rfl, free_of_row h.head⟩
end Go.Proofs.YtlhpbfjelgmkeaaGreat.Hvy
/- Contracts of heavy's made and Counters: the counters by id, in memory of the call's own. Conditions: a sketch that was made. -/
set_option maxRecDepth 100000
namespace Go.Proofs.YtlhpbfjelgmkeaaGreat.Hvy
open Go.RowKit Go.Maps Go.Sort Go.Shelf

theorem made_yes {w : World} {p m : Nat} (h : w.cell? ⟨p, 0, none⟩ = some (.int .i64 m)) (h1 : 1 ≤ m) :
    Calls Tryz.prog 279 #[.pointer (some ⟨p, 0, none⟩)] w fun e w' => e = .returned (.bool true) ∧ w = w' := by
  have h2 : 0 < m := h1
  clear h1
  go_enter Tryz.func279, Tryz.ntmps279
  go_wp2_with fail
  go_ret
  exact ⟨rfl, rfl⟩

/-- the comparison by id -/
def cfId (x y : Int × Int) : Int := Lib.compareInt x.1 y.1
theorem lt_id (x y : Int × Int) : ltOf cfId x y = decide (x.1 < y.1) := by
  unfold ltOf cfId Lib.compareInt
  by_cases h1 : x.1 < y.1
  · simp [h1]
  · by_cases h2 : y.1 < x.1 <;> simp [h1, h2]
theorem swo_id : SWO (ltOf cfId) where
  irrefl x := by rw [lt_id]; simp
  trans x y z h1 h2 := by rw [lt_id] at *; simp at *; omega
  ntrans x y z h1 h2 := by rw [lt_id] at *; simp at *; omega
set_option maxHeartbeats 1000000 in
theorem closId (x y : Int × Int) (W : World) : Calls Tryz.prog 284 #[.agg #[.int .i64 x.1, .int .i64 x.2], .agg #[.int .i64 y.1, .int .i64 y.2]] W fun e w' => e = .returned (.int .i64 (cfId x y)) ∧ ∃ q os', w' = grow (W.drewN q) os' := by
  have hcon := fun W' => Tryz.cmp_Compare_int x.1 y.1 W'
  unfold cfId
  generalize Lib.compareInt x.1 y.1 = r at hcon ⊢
  go_enter Tryz.func284, Tryz.ntmps284
  go_wp2_with fail
  refine (hcon _).mono ?_
  rintro e w' ⟨rfl, rfl⟩
  go_wp2_with fail
  go_ret
  exact ⟨rfl, 0, _, by rw [alloc_eq_grow, alloc_eq_grow, grow_grow]; rfl⟩

/-- two lists that rise and have the same counters are one -/
theorem asc_eq : ∀ {L L' : CL}, Asc L → Asc L' → (∀ p, p ∈ L ↔ p ∈ L') → L = L'
  | [], [], _, _, _ => rfl
  | [], q :: r, _, _, h => absurd ((h q).2 (List.mem_cons_self ..)) (by simp)
  | p :: r, [], _, _, h => absurd ((h p).1 (List.mem_cons_self ..)) (by simp)
  | p :: r, q :: s, hA, hB, h => by
    have h1 := asc_head hA
    have h2 := asc_head hB
    have e : p = q := by
      rcases List.mem_cons.1 ((h p).1 (List.mem_cons_self ..)) with e | e
      · exact e
      · rcases List.mem_cons.1 ((h q).2 (List.mem_cons_self ..)) with e' | e'
        · exact e'.symm
        · have := h2 p e
          have := h1 q e'
          omega
    subst e
    have := asc_eq (L := r) (L' := s) (asc_tail hA) (asc_tail hB) fun x => by
      constructor
      · intro hx
        rcases List.mem_cons.1 ((h x).1 (List.mem_cons_of_mem _ hx)) with e | e
        · subst e; exact absurd (h1 _ hx) (by omega)
        · exact e
      · intro hx
        rcases List.mem_cons.1 ((h x).2 (List.mem_cons_of_mem _ hx)) with e | e
        · subst e; exact absurd (h2 _ hx) (by omega)
        · exact e
    rw [this]

theorem sort_ids {w : World} {g c : Nat} {xs L : CL} (hR : RowP w g xs) (hA : Asc L) (hn : xs.Nodup) (hm : ∀ p, p ∈ xs ↔ p ∈ L) (hl : xs.length ≤ 1000000) :
    Calls Tryz.prog 283 #[.slice (some ⟨g, 0, none⟩) xs.length c, .func (.func 284) #[] #[]] w fun e w' =>
      e = .returned (.tuple #[]) ∧ RowP w' g L ∧ w.grownBy w' (some g) ∧ L.length = xs.length := by
  have eg : ∀ args w, (callFunc 284 args).run Tryz.prog w = .ok (.enter 284 args) w := enters_of Tryz.func284 (by kernel_rfl) rfl
  have hC : CmpLays Tryz.prog 284 #[] encP 2 cfId g 0 xs.toArray.size w := fun m os dk _ x y => by
    have := closId x y (sortWorldK encP 2 w g 0 m dk os)
    simpa [encP] using this
  have h := AnyQ.slices_SortFunc Tryz.sortCounter 2 Tryz.isAgg344 Tryz.sizeOf344 encP encP_len encP_one cfId swo_id 284 #[] g 0 c xs.toArray w eg hC hR.1 hR.2 (by simp; omega)
  have e0 : xs.toArray.size = xs.length := by simp
  rw [e0] at h
  refine h.mono ?_
  rintro e w' ⟨rfl, d', n, os, hp, hs, hw⟩
  have hd : d'.size = xs.length := by rw [hp.1, e0]
  have hperm : d'.toList.Perm xs := by
    have := hp.2.2
    rw [← hd] at this
    simp only [Array.extract_size] at this
    rw [hd] at this
    have e1 : xs.toArray.extract 0 xs.length = xs.toArray := by rw [← e0]; simp
    rw [e1] at this
    exact this
  have hasc : Asc d'.toList := by
    refine List.pairwise_iff_getElem.2 fun i j hi hj hij => ?_
    have h1 := hs i j (Nat.zero_le _) hij (by simp at hj; omega)
    have e1 : d'[i]! = d'.toList[i] := by rw [getElem!_pos d' i (by simpa using hi)]; simp
    have e2 : d'[j]! = d'.toList[j] := by rw [getElem!_pos d' j (by simpa using hj)]; simp
    rw [e1, e2, lt_id] at h1
    simp at h1
    have hnd : d'.toList.Nodup := hperm.nodup_iff.2 hn
    have hne : d'.toList[i] ≠ d'.toList[j] := fun e => by
      have := (List.nodup_iff_pairwise_ne.1 hnd)
      exact List.pairwise_iff_getElem.1 this i j hi hj hij e
    have m1 : d'.toList[i] ∈ L := (hm _).1 (hperm.mem_iff.1 (List.getElem_mem hi))
    have m2 : d'.toList[j] ∈ L := (hm _).1 (hperm.mem_iff.1 (List.getElem_mem hj))
    rcases Int.lt_or_eq_of_le h1 with g1 | g1
    · simpa using g1
    · exfalso
      apply hne
      have c1 := cnt_mem hA (id := (d'.toList[i]).1) (c := (d'.toList[i]).2) m1
      have c2 := cnt_mem hA (id := (d'.toList[j]).1) (c := (d'.toList[j]).2) m2
      refine Prod.ext (by simpa using g1) ?_
      rw [← c1, ← c2]
      congr 1
  have heq : d'.toList = L := asc_eq hasc hA fun p => by rw [hperm.mem_iff, hm]
  have hlen : L.length = xs.length := by rw [← heq]; simpa using hd
  have hSW : SWK encP 2 w g 0 L.toArray w' := ⟨n, os, by rw [hw, ← heq]⟩
  obtain ⟨r1, r2⟩ := row_of_swk hR hSW hlen
  exact ⟨rfl, r1, r2, hlen⟩

theorem info_ctr : (Tryz.prog.info? 344).map (fun i => (i.zero, i.size, i.bytes)) = some (some (.agg #[.int .i64 0, .int .i64 0]), 2, 16) := by kernel_rfl
/-- a counter more, behind a row of the call's own -/
theorem app_ctr {w : World} {B : Nat} {v : Value} {xs : CL} (hown : w.ownsRow B 344 2 v xs.length (flatP xs)) (hB : B ≤ w.heap.size) (hv : v ≠ .slice none 0 0) (x c : Int) (hl : xs.length ≤ 1000000) :
    ∃ v' w', (∀ ty, (Builtin.append_ #[341, 341] ty #[v, .slice (some ⟨w.heap.size, 0, none⟩) 1 1]).run Tryz.prog (w.alloc (.cells #[.int .i64 x, .int .i64 c] 344)) = .ok v' w') ∧
      w'.ownsRow B 344 2 v' (xs ++ [(x, c)]).length (flatP (xs ++ [(x, c)])) ∧ w.grownBy w' v.ownBlock ∧ v' ≠ .slice none 0 0 := by
  obtain ⟨i, hi, hz0, hz1, hz2⟩ := info_parts info_ctr
  have hown' : (w.alloc (.cells #[.int .i64 x, .int .i64 c] 344)).ownsRow B 344 2 v xs.length (flatP xs) := hown.alloc _
  obtain ⟨v', w', hr, h2, h3, h4⟩ := run_append_own (P := Tryz.prog) (w := w.alloc (.cells #[.int .i64 x, .int .i64 c] 344)) B 341 0 344 i (.agg #[.int .i64 0, .int .i64 0]) 2 16 Tryz.underlying341 hi hz0 hz1 hz2 rfl (by omega) v xs.length (flatP xs) hown'
    ⟨w.heap.size, 0, none⟩ 1 1 [.int .i64 x, .int .i64 c] rfl (fun j u hj => by
      rw [Addr.add_at, Nat.zero_add, cell_of_row _ _ _ _ _ _ (heap_alloc_new w _)]
      simpa using hj) (fun u hu => by simp at hu; rcases hu with rfl | rfl <;> rfl) (by unfold maxLen; omega) (by omega) (by simp; omega)
  refine ⟨v', w', fun ty => hr, ?_, (World.grownBy_alloc w _ v.ownBlock).andThen h3 (fun j hj => .inr hj), fun e => hv (h4.1 e).1⟩
  rw [flatP_snoc, List.length_append]
  exact h2

/-- what the loop over the map has gathered -/
structure Gath (L xs : CL) (left : Lit → Bool) : Prop where
  nodup : xs.Nodup
  sub : ∀ p ∈ xs, p ∈ L
  rest : ∀ p ∈ L, left (.int .i64 p.1) = false → p ∈ xs
  not_ : ∀ p ∈ xs, left (.int .i64 p.1) = false
theorem Gath.step {L xs : CL} {left : Lit → Bool} (h : Gath L xs left) (hA : Asc L) {x c : Int} (hm : (x, c) ∈ L) (hl : left (.int .i64 x) = true) : Gath L (xs ++ [(x, c)]) (fun z => left z && !z.sameKey (.int .i64 x)) where
  nodup := by
    refine List.nodup_append.2 ⟨h.nodup, by simp, fun a ha b hb => ?_⟩
    simp at hb
    subst hb
    rintro rfl
    have := h.not_ _ ha
    rw [hl] at this; cases this
  sub := fun p hp => by
    rcases List.mem_append.1 hp with hp | hp
    · exact h.sub p hp
    · simp at hp; subst hp; exact hm
  rest := fun p hp hl' => by
    simp only [same_int] at hl'
    by_cases e : p.1 = x
    · have : p = (x, c) := Prod.ext e (by have h1 := cnt_mem hA (id := p.1) (c := p.2) hp; have h2 := cnt_mem hA hm; rw [e, h2] at h1; exact h1.symm)
      subst this; simp
    · simp [e] at hl'
      exact List.mem_append_left _ (h.rest p hp hl')
  not_ := fun p hp => by
    rcases List.mem_append.1 hp with hp | hp
    · simp [h.not_ p hp]
    · simp at hp; subst hp; simp [same_int]
theorem Gath.start (L : CL) : Gath L [] (has (mapD L)) := ⟨List.nodup_nil, (fun p hp => by cases hp), (fun p hp hl => by
  rw [has_mapD] at hl
  have : (L.any fun q => decide (q.1 = p.1)) = true := List.any_eq_true.2 ⟨p, hp, by simp⟩
  rw [this] at hl; cases hl), (fun p hp => by cases hp)⟩
theorem nodup_len {α : Type} [DecidableEq α] : ∀ (xs L : List α), xs.Nodup → (∀ p ∈ xs, p ∈ L) → xs.length ≤ L.length
  | [], _, _, _ => Nat.zero_le _
  | x :: r, L, hn, hs => by
    have hx := hs x (List.mem_cons_self ..)
    have hn' := List.nodup_cons.1 hn
    have := nodup_len r (L.erase x) hn'.2 fun p hp => (List.mem_erase_of_ne (fun e => by subst e; exact hn'.1 hp)).2 (hs p (List.mem_cons_of_mem _ hp))
    rw [List.length_erase_of_mem hx] at this
    have := List.length_pos_of_mem hx
    rw [List.length_cons]; omega
theorem Gath.end {L xs : CL} {left : Lit → Bool} (h : Gath L xs left) (hl : ∀ kl, left kl = false) : ∀ p, p ∈ xs ↔ p ∈ L := fun p => ⟨h.sub p, fun hp => h.rest p hp (hl _)⟩
theorem Gath.len {L xs : CL} {left : Lit → Bool} (h : Gath L xs left) : xs.length ≤ L.length := nodup_len xs L h.nodup h.sub

/-- the counters by id, in memory of the call's own -/
def CtrAt (w : World) (L : CL) (e : Ending) (w' : World) : Prop := ∃ g c, e = .returned (.slice (some ⟨g, 0, none⟩) L.length c) ∧ w.heap.size ≤ g ∧ L.length ≤ c ∧ RowP w' g L ∧ Below w.heap.size w w'

set_option maxHeartbeats 4000000 in
theorem counters_at {w : World} {p m b : Nat} {L : CL} (c0 : w.cell? ⟨p, 0, none⟩ = some (.int .i64 m)) (h1 : 1 ≤ m) (c2 : w.cell? ⟨p, 2, none⟩ = some (.map (some b))) (hM : MapAt w b L) (hl : L.length ≤ 100000) :
    Calls Tryz.prog 280 #[.pointer (some ⟨p, 0, none⟩)] w (CtrAt w L) := by
  have KM := made_yes c0 h1
  have hlen := hM.len
  have hb := hM.lt
  obtain ⟨i0, hi, hz0, hz1, hz2⟩ := info_parts info_ctr
  have hmk : ∀ W, (Instr.makeSlice 341 (.int .i64 0) (.int .i64 (L.length : Int))).run Tryz.prog W = .ok (.slice (some ⟨W.heap.size, 0, none⟩) 0 L.length) (W.alloc (.cells (madeCells (Value.agg #[.int .i64 0, .int .i64 0]).cells (L.length * 2)) 344)) := fun W => by
    have := run_make (P := Tryz.prog) W 341 344 i0 (.agg #[.int .i64 0, .int .i64 0]) Tryz.underlying341 hi hz0 .i64 .i64 0 L.length (by omega) (by omega) (by rw [hz2]; omega) (by omega)
    rw [this, hz1]
    rfl
  have HM := Lib.hid hM
  have HL := Lib.hid hl
  clear hM h1 c0 hi hz0 hz1 hz2 hl
  go_enter Tryz.func280, Tryz.ntmps280
  go_wp2_with fail
  refine KM.mono ?_
  rintro e w' ⟨rfl, rfl⟩
  clear KM
  obtain ⟨cs, hcs⟩ : ∃ cs, madeCells (Value.agg #[.int .i64 0, .int .i64 0]).cells (L.length * 2) = cs := ⟨_, rfl⟩
  have HCS := Lib.hid hcs
  simp only [hcs] at hmk
  clear hcs
  have hown : (w.alloc (.cells cs 344)).ownsMap Tryz.prog 3 (plainElem Tryz.prog 3) b L.length (mapD L) := HM.out.own.alloc _
  have c2' : (w.alloc (.cells cs 344)).cell? ⟨p, 2, none⟩ = some (.map (some b)) := by
    rw [((Below.refl _ w).alloc (Nat.le_refl _) _).cell (World.block_lt_of_cell? w _ c2)]; exact c2
  go_wp2_with (first
    | (at_range; refine wpList_range_own _ rfl _ 201 rfl 3 3 KI Tryz.underlying201 (plainElem Tryz.prog 3) b L.length _ rfl hown ?_; intro w1 hrg1 hg1 hs1)
    | fail)
  go_frame
  obtain ⟨r, hr⟩ : ∃ r, (w.alloc (.cells cs 344)).heap.size = r := ⟨_, rfl⟩
  rw [hr] at hrg1 ⊢
  have hr' : r = w.heap.size + 1 := by rw [← hr]; simp
  have B1 : Hid (Below w.heap.size w w1) := ((Below.refl _ w).alloc (Nat.le_refl _) (.cells cs 344)).grown hg1 (by simp) (fun j hj => by cases hj)
  have O1 : w1.ownsRow w.heap.size 344 2 (.slice (some ⟨w.heap.size, 0, none⟩) 0 L.length) ([] : CL).length (flatP []) := by
    refine World.ownsRow.kept ?_ hg1 (.inr (by simp [Value.ownBlock]))
    exact World.ownsRow_made w cs L.length (Nat.le_refl _) (by have := HL.out; unfold maxLen; omega) (by rw [← HCS.out]; simp [madeCells, Value.cells])
  have HG0 := Lib.hid (Gath.start L)
  have HR := Lib.hid hr'
  have HX := Lib.hid (And.intro hrg1 O1)
  clear hr hr' hg1 hs1 hrg1 O1 hown c2 c2' hlen hmk HCS
  go_loopw [3] (fun v wr => ∃ (left : Lit → Bool) (cn : Nat) (xs : CL) (g c : Nat), v = .slice (some ⟨g, 0, none⟩) xs.length c ∧ Hid (wr.ranges Tryz.prog 3 (plainElem Tryz.prog 3) b r L.length (mapD L) left cn) ∧ Hid (wr.ownsRow w.heap.size 344 2 (.slice (some ⟨g, 0, none⟩) xs.length c) xs.length (flatP xs)) ∧ Hid (Below w.heap.size w wr) ∧ Hid (Gath L xs left))
    (fun _ wr => wr.rangeLeft b r)
  case atStart => exact ⟨_, _, [], _, _, rfl, HX.out.1, HX.out.2, B1, HG0⟩
  case round =>
    clear HX B1 HG0
    obtain ⟨left, cn, xs, g, c, rfl, Hrg, Hown, HB, HG⟩ := hrel
    have hrg := Hrg.out
    go_wp2_with (first
      | (at_next; refine wpList_next_ranges_ii _ rfl _ rfl 3 3 .i64 .i64 KI Tryz.underlying3 Tryz.underlying3 b r L.length _ _ _ rfl hrg ?_ ?_)
      | fail)
    · intro _ hl0
      have K := sort_ids (c := c) (row_of_owns Hown.out) HM.out.asc HG.out.nodup (HG.out.end hl0) (by have := HG.out.len; have := HL.out; omega)
      have hcap : xs.length ≤ c := by
        rcases Hown.out.2 with ⟨e, _⟩ | ⟨g', cap, cur, e, _, _, h, _⟩
        · simp at e
        · simp at e; omega
      have hg := (Hown.out.lt g rfl).1
      have HC := Lib.hid (And.intro hcap hg)
      clear hl0 hrg hcap hg
      go_wp2_with fail
      refine K.mono ?_
      rintro e w3 ⟨rfl, hR, hgr, hlen⟩
      have HE : Hid (CtrAt w L (.returned (.slice (some ⟨g, 0, none⟩) xs.length c)) w3) := by
        refine ⟨g, c, by rw [hlen], HC.out.2, by rw [hlen]; exact HC.out.1, hR, HB.out.grown hgr HB.out.size (fun j hj => by cases hj; exact HC.out.2)⟩
      clear K hR hgr hlen
      go_wp2_with fail
      go_ret
      exact HE.out
    · intro x y w2 cn2 hwx hwc hlx hat hrg2 hlt hg2 hs2 hen
      have hm : (x, y) ∈ L := atKey_some hat
      have G2 := Lib.hid (HG.out.step HM.out.asc hm hlx)
      have hne : some r ≠ (Value.slice (some ⟨g, 0, none⟩) xs.length c).ownBlock := row_ne_iter Hown.out hrg
      have hown2 : w2.ownsRow w.heap.size 344 2 (.slice (some ⟨g, 0, none⟩) xs.length c) xs.length (flatP xs) := Hown.out.kept hg2 (.inr (fun e => hne e.symm))
      have B2 : Hid (Below w.heap.size w w2) := HB.out.grown hg2 HB.out.size (fun j hj => by cases hj; rw [HR.out]; omega)
      obtain ⟨v', w3, hrun, hown3, hgr3, hv3⟩ := app_ctr hown2 B2.out.size (by simp) x y (by have := HG.out.len; have := HL.out; omega)
      obtain ⟨g', c', rfl⟩ : ∃ g' c', v' = .slice (some ⟨g', 0, none⟩) (xs ++ [(x, y)]).length c' := by
        rcases hown3.2 with ⟨e, _⟩ | ⟨g', cap, cur, e, _⟩
        · exact absurd e hv3
        · exact ⟨g', cap, e⟩
      have hlow : some b ≠ (Value.slice (some ⟨g, 0, none⟩) xs.length c).ownBlock := row_ne_low hown2 hb
      have RG3 := Lib.hid (hrg2.kept hgr3 hlow (row_ne_iter hown2 hrg2))
      have B3 : Hid (Below w.heap.size w w3) := B2.out.grown hgr3 B2.out.size (fun j hj => (hown2.lt j hj).1)
      have O3 := Lib.hid hown3
      have HLT := Lib.hid (And.intro hlt (And.intro RG3.out.left_eq Hrg.out.left_eq))
      have HRUN := Lib.hid hrun
      clear hm hlx hat hrg2 hlt hg2 hs2 hne hown2 hown3 hgr3 hv3 hlow hrg hrun hwx hwc
      go_wp2_with (first
        | (at_builtin; refine wpList_append_run rfl _ _ 341 rfl rfl rfl (HRUN.out _) ?_)
        | fail)
      go_roundw
      case rel => exact ⟨_, cn2, xs ++ [(x, y)], g', c', by simp, RG3, O3, B3, G2⟩
      case measure => rw [HLT.out.2.1, HLT.out.2.2]; exact HLT.out.1
end Go.Proofs.YtlhpbfjelgmkeaaGreat.Hvy
/- Contract of heavy's take: so many from each counter, those that are not above 0 go. Conditions: a sketch that was made. -/
set_option maxRecDepth 100000
namespace Go.Proofs.YtlhpbfjelgmkeaaGreat.Hvy
open Go.RowKit Go.Maps Go.Sort Go.Shelf

def subL (k : Int) (L : CL) : CL := L.map fun p => (p.1, p.2 - k)
def less (k : Int) (L : CL) : CL := (subL k L).filter fun p => !decide (p.2 ≤ 0)
def preL (k : Int) (L : CL) (j : Nat) : CL := subL k (L.take j) ++ L.drop j
theorem asc_subL {k : Int} {L : CL} (h : Asc L) : Asc (subL k L) := by
  unfold Asc subL at *
  exact List.pairwise_map.2 h
theorem asc_preL {k : Int} {L : CL} (h : Asc L) (j : Nat) : Asc (preL k L j) := by
  have h' : Asc (L.take j ++ L.drop j) := by rw [List.take_append_drop]; exact h
  unfold Asc preL subL at *
  rw [List.pairwise_append] at h' ⊢
  refine ⟨List.pairwise_map.2 h'.1, h'.2.1, fun a ha b hb => ?_⟩
  obtain ⟨q, hq, rfl⟩ := List.mem_map.1 ha
  exact h'.2.2 q hq b hb
theorem preL_split {k : Int} {L : CL} {j : Nat} {p : Int × Int} (h : L[j]? = some p) : preL k L j = subL k (L.take j) ++ p :: L.drop (j + 1) ∧ preL k L (j + 1) = subL k (L.take j) ++ (p.1, p.2 - k) :: L.drop (j + 1) := by
  obtain ⟨hj, e⟩ := List.getElem?_eq_some_iff.1 h
  refine ⟨?_, ?_⟩
  · unfold preL
    rw [List.drop_eq_getElem_cons hj, e]
  · unfold preL
    rw [List.take_succ_eq_append_getElem hj, e]
    simp [subL]
theorem preL_len (k : Int) (L : CL) (j : Nat) : (preL k L j).length = L.length := by
  simp [preL, subL]; omega
theorem preL_end (k : Int) (L : CL) : preL k L L.length = subL k L := by simp [preL]
theorem preL_zero (k : Int) (L : CL) : preL k L 0 = L := by simp [preL, subL]

/-- what the closure of take says, on data -/
def pdLe : Lit → DataW Unit → Bool
  | _, .lit (.int .i64 c) => decide (c ≤ 0)
  | _, _ => false
theorem del_mapD (L : CL) : Lib.deleteFuncD pdLe (mapD L) = mapD (L.filter fun p => !decide (p.2 ≤ 0)) := by
  unfold mapD Lib.deleteFuncD
  simp only
  congr 1
  rw [List.filter_map]
  congr 1
theorem closLe (key c : Int) (W : World) : Calls Tryz.prog 288 #[.int .i64 key, .int .i64 c] W fun e w' => e = .returned (.bool (decide (c ≤ 0))) ∧ W = w' := by
  go_enter Tryz.func288, Tryz.ntmps288
  go_wp2_with fail
  go_ret
  exact ⟨rfl, rfl⟩
theorem del_ints {w : World} {b : Nat} {L : CL} (hM : MapAt w b L) :
    Calls Tryz.prog 287 #[.map (some b), .func (.func 288) #[] #[]] w fun e w' => e = .returned (.tuple #[]) ∧ MapAt w' b (L.filter fun p => !decide (p.2 ≤ 0)) ∧ w.grownBy w' (some b) := by
  have eg : ∀ args w, (callFunc 288 args).run Tryz.prog w = .ok (.enter 288 args) w := enters_of Tryz.func288 (by kernel_rfl) rfl
  have h := AnyDf.maps_DeleteFunc Tryz.delInts KI (plainElem Tryz.prog 3) pdLe 288 #[] b L.length (mapD L) w eg hM.own (fun W key val kl yd yp _ hk hv => by
    obtain ⟨x, rfl, rfl, _⟩ := Maps.keyOf_int_inv Tryz.underlying3 hk
    obtain ⟨c, rfl, hz, _⟩ := plainElem_int_inv Tryz.underlying3 hv
    simp only [Prod.mk.injEq] at hz
    obtain ⟨rfl, _⟩ := hz
    have := closLe x c W
    refine (by simpa using this : Calls Tryz.prog 288 (#[.int .i64 x, .int .i64 c] ++ #[]) W _).mono ?_
    rintro e w' ⟨rfl, rfl⟩
    exact ⟨rfl, World.grownBy.refl W none⟩)
  refine h.mono ?_
  rintro e w' ⟨rfl, ho, hg⟩
  rw [del_mapD] at ho
  exact ⟨rfl, ⟨List.Pairwise.filter _ hM.asc, fun p hp => hM.inI p (List.mem_filter.1 hp).1, own_tight ho⟩, hg⟩

/-- a sketch whatever it counts -/
def Hl (p m n : Nat) (L : CL) : Thing := fun T i w => ∃ b, HkAt T i w p m n b L
theorem Hl.framed (p m n : Nat) (L : CL) : Framed (Hl p m n L) := by
  rintro T T' i w w' ⟨b, h⟩ hT hw
  exact ⟨b, ⟨(hw p (lt_of_heap h.head) (.inr h.tp)).trans h.head, (hT p (lt_of_heap h.head)).trans h.tp, h.map.of_block (hw b h.map.lt (.inr h.tb)), (hT b h.map.lt).trans h.tb⟩⟩

/-- how the loop of take stands -/
structure TakeAt (w1 : World) (wr : World) (p m n b g : Nat) (k : Int) (L : CL) (j : Nat) : Prop where
  head : wr.heap[p]? = some (.cells #[.int .i64 m, .int .i64 n, .map (some b)] 203 (0, 0))
  row : RowP wr g L
  map : MapAt wr b (preL k L j)
  own : w1.grownBy wr (some b)
theorem take_step {w1 wr : World} {p m n b g j : Nat} {k : Int} {L : CL} (h : TakeAt w1 wr p m n b g k L j) (hA : Asc L) (hpb : p ≠ b) (hgb : g ≠ b) {q : Int × Int} (hq : L[j]? = some q) (hk : InI (q.2 - k)) (hl : L.length ≤ 100000) (o : Obj) :
    (∀ ty, (Instr.lookup 201 (.map (some b)) (.int .i64 q.1) false).run Tryz.prog ((wr.alloc o).drewN ty) = .ok (.int .i64 q.2) ((wr.alloc o).drewN ty)) ∧
    ∃ w3, (Instr.mapUpdate 201 (.map (some b)) (.int .i64 q.1) (.int .i64 (q.2 - k))).run Tryz.prog (wr.alloc o).drew = .ok () w3 ∧ TakeAt w1 w3 p m n b g k L (j + 1) := by
  have hb := h.map.lt
  have e : ∀ r, r < wr.heap.size → (wr.alloc o).heap[r]? = wr.heap[r]? := fun r hr => heap_alloc_old wr o hr
  have hM : ∀ x, MapAt ((wr.alloc o).drewN x) b (preL k L j) := fun x => h.map.of_block (e b hb)
  obtain ⟨s1, s2⟩ := preL_split (k := k) hq
  have hA' := asc_preL (k := k) hA j
  have hin : q ∈ preL k L j := by rw [s1]; simp
  have hc := cnt_mem hA' (id := q.1) (c := q.2) hin
  have hi := (h.map.inI q hin).1
  refine ⟨fun x => by have := (hM x).lookup hi; rwa [hc] at this, ?_⟩
  obtain ⟨w3, h1, h2, h3⟩ := (hM 1).update hi hk (by rw [preL_len]; unfold maxLen; omega)
  rw [s1] at h2 hA'
  obtain ⟨q1, q2⟩ := q
  rw [putL_at hA', ← s2] at h2
  refine ⟨w3, h1, ?_, ?_, h2, ?_⟩
  · rw [h3.block p (by simp [World.drewN]; have := lt_of_heap h.head; omega) (by simp [hpb])]
    exact (e p (lt_of_heap h.head)).trans h.head
  · refine h.row.of_block ?_ ?_
    · rw [h3.block g (by simp [World.drewN]; have := h.row.2; omega) (by simp [hgb])]
      exact e g h.row.2
    · exact Nat.le_trans (by simp [World.drewN]) h3.size
  · exact (h.own.andThen (World.grownBy_alloc wr o none) (fun j hj => by cases hj)).andThen (⟨h3.os, h3.tape, h3.output, h3.size, h3.block⟩ : (wr.alloc o).grownBy w3 (some b)) (fun j hj => .inr hj)

set_option maxHeartbeats 4000000 in
theorem take_at {T : Tags} {i : Nat} {w : World} {p m n b : Nat} {L : CL} (h : HkAt T i w p m n b L) (h1 : 1 ≤ m) (k : Int) (hk : ∀ q ∈ L, InI (q.2 - k)) (hl : L.length ≤ 100000) :
    Calls Tryz.prog 282 #[.pointer (some ⟨p, 0, none⟩), .int .i64 k] w fun e w' => e = .returned (.tuple #[]) ∧ Hid (Goes T i w (Hl p m n (less k L)) w') := by
  obtain ⟨c0, c1, c2, _⟩ := h.cells
  have KC := counters_at c0 h1 c2 h.map hl
  have HH := Lib.hid h
  have HK := Lib.hid hk
  have HL := Lib.hid hl
  clear c0 c1 c2 h1 h hk
  go_enter Tryz.func282, Tryz.ntmps282
  go_wp2_with fail
  refine KC.mono ?_
  rintro e w1 ⟨g, c, rfl, hg, hc, hR, hB⟩
  have hb := HH.out.map.lt
  have hp := lt_of_heap HH.out.head
  have X0 : Hid (TakeAt w1 w1 p m n b g k L 0) := Lib.hid
    { head := (hB.block p hp).trans HH.out.head
      row := hR
      map := by rw [preL_zero]; exact HH.out.map.of_block (hB.block b hb)
      own := World.grownBy.refl _ _ }
  have hgb : g ≠ b := by omega
  have HB := Lib.hid hB
  have hl0 : (L.length : Int) ≤ 100000 := by omega
  clear KC hR hB hg hc
  go_wp2_with fail
  go_loopw [9] (fun s9 wr => ∃ j : Nat, s9 = .int .i64 j ∧ j ≤ L.length ∧ Hid (TakeAt w1 wr p m n b g k L j)) (fun s9 _ => L.length - (intOf s9).toNat)
  case atStart => exact ⟨0, rfl, Nat.zero_le _, X0⟩
  case round =>
    clear X0
    obtain ⟨j, rfl, hj, HX⟩ := hrel
    by_cases hlt : j < L.length
    · have hz : (j : Int) < (L.length : Int) := by omega
      obtain ⟨q, hq⟩ : ∃ q, L[j]? = some q := ⟨_, List.getElem?_eq_getElem hlt⟩
      obtain ⟨r0, r1, _, _⟩ := HX.out.row.cell hq
      have hqk : InI (q.2 - k) := HK.out q (List.mem_of_getElem? hq)
      obtain ⟨hlk, w3, hup, hX3⟩ := take_step HX.out HH.out.map.asc HH.out.ne hgb hq hqk HL.out (.cells #[.int .i64 q.1, .int .i64 q.2] 344)
      have cc2 : wr.cell? ⟨p, 2, none⟩ = some (.map (some b)) := by rw [cell_of_row _ _ _ _ _ _ HX.out.head]; rfl
      have hlk1 := hlk 1
      have wk : IntKind.i64.wrap (q.2 - k) = q.2 - k := by rw [IntKind.wrap_i64]; have := hqk; unfold InI at this; omega
      have X3 := Lib.hid hX3
      have NP : p ≠ wr.heap.size := by have := lt_of_heap HX.out.head; omega
      clear hq hlk hX3 HX hqk
      go_wp2_with fail
      obtain ⟨W, hW⟩ : ∃ W, wr.alloc (.cells #[.int .i64 q.1, .int .i64 q.2] 344) = W := ⟨_, rfl⟩
      have d2 : W.cell? ⟨p, 2, none⟩ = some (.map (some b)) := by
        rw [← hW, ((Below.refl _ wr).alloc (Nat.le_refl _) _).cell (World.block_lt_of_cell? wr _ cc2)]; exact cc2
      have d0 : W.cell? ⟨wr.heap.size, 0, none⟩ = some (.int .i64 q.1) := by
        rw [cell_of_row _ _ _ _ _ _ (hW ▸ heap_alloc_new wr _)]; rfl
      rw [hW] at hup hlk1 ⊢
      have hlk2 : Sem.run Tryz.prog (Instr.lookup 201 (.map (some b)) (.int .i64 q.1) false) W.drew = .ok (.int .i64 q.2) W.drew := hlk1
      clear hW hlk1 cc2 r0 r1 NP
      go_region
      clear d2 d0 hup hlk2 wk
      go_wp2_with fail
      go_roundw
      case rel => exact ⟨j + 1, by go_num, by omega, X3⟩
      case measure => simp [intOf]; omega
    · obtain rfl : j = L.length := by omega
      have KD := del_ints HX.out.map
      rw [preL_end] at KD
      have cc2 : wr.cell? ⟨p, 2, none⟩ = some (.map (some b)) := by rw [cell_of_row _ _ _ _ _ _ HX.out.head]; rfl
      go_wp2_with fail
      refine KD.mono ?_
      rintro e w2 ⟨rfl, hM2, hg2⟩
      have FIN : Hid (Goes T i w (Hl p m n (less k L)) w2) := by
        have hgr := HX.out.own.trans hg2
        have el : Else (fun x => T x = some i) w w2 := (Else.of_below (O := fun x => T x = some i) HB.out).trans (Else.of_grown hgr) (fun x hx => .inl (by cases hx; exact HH.out.tb))
        refine ⟨T, fun _ _ => rfl, el, b, ?_, HH.out.tp, hM2, HH.out.tb⟩
        rw [hg2.block p (lt_of_heap HX.out.head) (by have := HH.out.ne; simp [this])]
        exact HX.out.head
      clear KD hM2 hg2
      go_wp2_with fail
      go_end0
      exact ⟨rfl, FIN⟩
end Go.Proofs.YtlhpbfjelgmkeaaGreat.Hvy
/- Contract of heavy's Insert: a number more. Conditions: a sketch that was made. -/
set_option maxRecDepth 100000
namespace Go.Proofs.YtlhpbfjelgmkeaaGreat.Hvy
open Go.RowKit Go.Maps Go.Sort Go.Shelf

theorem total_append (A B : CL) : total (A ++ B) = total A + total B := by simp [total]
theorem total_putL {L : CL} (hA : Asc L) (id c : Int) : total (putL id c L) = total L - cnt L id + c := by
  induction L with
  | nil => simp [putL, total, cnt]
  | cons q r ih =>
    unfold putL
    by_cases g1 : id < q.1
    · rw [if_pos g1, total_cons, cnt_none]
      · simp; omega
      · intro p hp
        rcases List.mem_cons.1 hp with rfl | hp
        · omega
        · have := asc_head hA p hp; omega
    · rw [if_neg g1]
      by_cases g2 : q.1 = id
      · rw [if_pos g2, total_cons, total_cons]
        show _ = _ - (if q.1 = id then q.2 else cnt r id) + c
        rw [if_pos g2]; simp; omega
      · rw [if_neg g2, total_cons, total_cons, ih (asc_tail hA)]
        show _ = _ - (if q.1 = id then q.2 else cnt r id) + c
        rw [if_neg g2]; omega
theorem less_cons (k : Int) (p : Int × Int) (r : CL) : less k (p :: r) = if p.2 - k ≤ 0 then less k r else (p.1, p.2 - k) :: less k r := by
  unfold less subL
  rw [List.map_cons]
  by_cases h : p.2 - k ≤ 0
  · rw [if_pos h, List.filter_cons_of_neg (by simp; omega)]
  · rw [if_neg h, List.filter_cons_of_pos (by simp; omega)]
theorem less_pos {k : Int} {L : CL} : ∀ p ∈ less k L, 1 ≤ p.2 := fun p hp => by
  have := (List.mem_filter.1 hp).2
  simp at this; omega
theorem less_len (k : Int) (L : CL) : (less k L).length ≤ L.length := by
  unfold less
  exact Nat.le_trans (List.length_filter_le _ _) (by simp [subL])
theorem total_less {k : Int} (hk : 0 ≤ k) : ∀ {L : CL}, (∀ p ∈ L, 1 ≤ p.2) → total (less k L) ≤ total L
  | [], _ => Int.le_refl _
  | p :: r, h => by
    have ih := total_less hk (L := r) fun q hq => h q (List.mem_cons_of_mem _ hq)
    have := h p (List.mem_cons_self ..)
    rw [less_cons, total_cons]
    split
    · omega
    · rw [total_cons]; simp; omega
theorem cnt_nonneg {L : CL} (h : ∀ p ∈ L, 1 ≤ p.2) (id : Int) : 0 ≤ cnt L id := by
  by_cases e : cnt L id = 0
  · omega
  · have := h _ (mem_of_cnt e); simp at this; omega

def HV.ins (V : HV) (id : Int) : HV :=
  if V.n = 1125899906842624 then V else ⟨V.m, V.n + 1, if 0 < cnt V.L id ∨ V.L.length < V.m then putL id (cnt V.L id + 1) V.L else less 1 V.L⟩
theorem HV.Good.ins {V : HV} (h : V.Good) (hA : Asc V.L) (id : Int) : (V.ins id).Good := by
  unfold HV.ins
  split
  · exact h
  · rename_i hn
    have hn' : V.n + 1 ≤ 1125899906842624 := by have := h.n50; omega
    refine ⟨h.m1, h.m64, hn', ?_, ?_, ?_⟩
    · show List.length (if _ then _ else _) ≤ V.m
      split
      · rename_i hc
        by_cases h0 : 0 < cnt V.L id
        · rw [putL_len_mem hA ⟨_, mem_of_cnt (by omega), rfl⟩]; exact h.len
        · have := putL_len V.L id (cnt V.L id + 1)
          rcases hc with hc | hc
          · exact absurd hc h0
          · omega
      · exact Nat.le_trans (less_len _ _) h.len
    · show ∀ p : Int × Int, p ∈ (if 0 < cnt V.L id ∨ V.L.length < V.m then putL id (cnt V.L id + 1) V.L else less 1 V.L) → 1 ≤ p.2
      split
      · intro p hp
        rcases putL_sub hp with rfl | hp
        · have := cnt_nonneg h.pos id
          show 1 ≤ cnt V.L id + 1; omega
        · exact h.pos p hp
      · exact less_pos
    · show total (if _ then _ else _) ≤ ((V.n + 1 : Nat) : Int)
      have := h.sum
      split
      · rw [total_putL hA]; omega
      · have := total_less (k := 1) (by omega) h.pos; omega
theorem HV.ins_m (V : HV) (id : Int) : (V.ins id).m = V.m := by unfold HV.ins; split <;> rfl

theorem Hk.loose {T : Tags} {i : Nat} {w : World} {p : Nat} {V : HV} (h : Hk p V T i w) : Hl p V.m V.n V.L T i w := by
  obtain ⟨b, h, _⟩ := h
  exact ⟨b, h⟩
theorem goes_map {T : Tags} {i : Nat} {w w' : World} {A B : Thing} (h : Goes T i w A w') (hab : ∀ T, A T i w' → B T i w') : Goes T i w B w' := by
  obtain ⟨T', n1, e1, h1⟩ := h
  exact ⟨T', n1, e1, hab T' h1⟩
theorem HkAt.set_total {T : Tags} {i : Nat} {w : World} {p m n b : Nat} {L : CL} (h : HkAt T i w p m n b L) (n' : Nat) : HkAt T i (w.setCell ⟨p, 1, none⟩ (.int .i64 n')) p m n' b L :=
  ⟨heap_set h.head _, h.tp, h.map.of_block (Below.heap_setCell _ _ _ _ (fun e => h.ne e.symm)), h.tb⟩
theorem HkAt.drewN {T : Tags} {i : Nat} {w : World} {p m n b : Nat} {L : CL} (h : HkAt T i w p m n b L) (x : Nat) : HkAt T i (w.drewN x) p m n b L := ⟨h.head, h.tp, h.map.of_block rfl, h.tb⟩

theorem full_ins {w : World} {p m n b : Nat} {L : CL} {T : Tags} {i : Nat} (h : HkAt T i w p m n b L) (h1 : 1 ≤ m) (hn : n = 1125899906842624) (id : Int) :
    Calls Tryz.prog 278 #[.pointer (some ⟨p, 0, none⟩), .int .i64 id] w fun e w' => e = .returned (.tuple #[]) ∧ w = w' := by
  obtain ⟨c0, c1, c2, _⟩ := h.cells
  have KM := made_yes c0 h1
  have hn' : ((n : Int) == 1125899906842624) = true := by simp; omega
  clear c0 c2 h h1 hn
  go_enter Tryz.func278, Tryz.ntmps278
  go_wp2_with fail
  refine KM.mono ?_
  rintro e w' ⟨rfl, rfl⟩
  clear KM
  go_wp2_with fail
  refine bodyPost_ret (results_none rfl _ _ _) rfl ?_
  exact ⟨rfl, rfl⟩

set_option maxHeartbeats 4000000 in
theorem ins_new {w : World} {p m n b : Nat} {L : CL} {T : Tags} {i : Nat} (h : HkAt T i w p m n b L) (h1 : 1 ≤ m) (hm : m ≤ 64) (hn : n < 1125899906842624) {id : Int} (hid : InI id) (hl : L.length ≤ 1000) (hc : ∀ q ∈ L, 0 ≤ q.2 ∧ q.2 ≤ 2251799813685248) :
    Calls Tryz.prog 278 #[.pointer (some ⟨p, 0, none⟩), .int .i64 id] w fun e w' => e = .returned (.tuple #[]) ∧ Hid (Goes T i w (Hl p m (n + 1) (if 0 < cnt L id ∨ L.length < m then putL id (cnt L id + 1) L else less 1 L)) w') := by
  obtain ⟨c0, c1, c2, f0⟩ := h.cells
  have f1 := f0 1
  have KM := made_yes c0 h1
  have hn' : ((n : Int) == 1125899906842624) = false := by simp; omega
  have wn : IntKind.i64.wrap ((n : Int) + 1) = (n : Int) + 1 := by rw [IntKind.wrap_i64]; omega
  have h2 := h.set_total (n + 1)
  have hcn : 0 ≤ cnt L id ∧ cnt L id ≤ 2251799813685248 := by
    by_cases e : cnt L id = 0
    · omega
    · exact hc _ (mem_of_cnt e)
  have g1 : Else (fun x => T x = some i) w (w.setCell ⟨p, 1, none⟩ (.int .i64 ((n + 1 : Nat) : Int))) := (Else.refl _ w).setCell (.inl h.tp) _
  have hW : w.setCell ⟨p, 1, none⟩ (.int .i64 ((n + 1 : Nat) : Int)) = w.setCell ⟨p, 1, none⟩ (.int .i64 ((n : Int) + 1)) := by simp
  rw [hW] at h2 g1
  have HC := Lib.hid hc
  have HI := Lib.hid hid
  have HL := Lib.hid (And.intro hl (And.intro h1 hm))
  obtain ⟨C, hC⟩ : ∃ C, cnt L id = C := ⟨_, rfl⟩
  have HCN := Lib.hid hC
  rw [hC] at hcn
  simp only [hC]
  clear h hc hid hl h1 hm hn hC c0 c2 f0 hW
  go_enter Tryz.func278, Tryz.ntmps278
  go_wp2_with fail
  refine KM.mono ?_
  rintro e w' ⟨rfl, rfl⟩
  clear KM
  go_wp2_with fail
  obtain ⟨W, hW⟩ : ∃ W, w.setCell ⟨p, 1, none⟩ (.int .i64 ((n : Int) + 1)) = W := ⟨_, rfl⟩
  rw [hW] at h2 g1 ⊢
  clear hW c1 f1 wn
  obtain ⟨e0, e1, e2, _⟩ := h2.cells
  have HH := Lib.hid h2
  have HG := Lib.hid g1
  have lk : ∀ x, Sem.run Tryz.prog (Instr.lookup 201 (.map (some b)) (.int .i64 id) false) (W.drewN x) = .ok (.int .i64 C) (W.drewN x) := fun x => by rw [← HCN.out]; exact (h2.drewN x).map.lookup HI.out
  have ln : ∀ x ty, Sem.run Tryz.prog (Builtin.len_ #[201] ty #[.map (some b)]) (W.drewN x) = .ok (.int .i64 L.length) (W.drewN x) := fun x ty => (h2.drewN x).map.len ty
  have UP : Hid (∀ x, ∃ w3, Sem.run Tryz.prog (Instr.mapUpdate 201 (.map (some b)) (.int .i64 id) (.int .i64 (C + 1))) (W.drewN x) = .ok () w3 ∧ Goes T i w (Hl p m (n + 1) (putL id (C + 1) L)) w3) := Lib.hid fun x => by
    obtain ⟨w3, q1, q2, q3⟩ := (HH.out.drewN x).map.update HI.out (c := C + 1) (by unfold InI; omega) (by have := HL.out.1; unfold maxLen; omega)
    refine ⟨w3, q1, T, fun _ _ => rfl, (HG.out.drewN x).trans (Else.of_grown q3) (fun y hy => .inl (by cases hy; exact HH.out.tb)), b, ?_, HH.out.tp, q2, HH.out.tb⟩
    rw [q3.block p (lt_of_heap (HH.out.drewN x).head) (by have := HH.out.ne; simp [this])]
    exact HH.out.head
  clear h2 g1 e1
  by_cases hA : 0 < C
  · go_quiet (fail)
    obtain ⟨w3, hup, X⟩ := UP.out nq
    have FIN : Hid (Goes T i w (Hl p m (n + 1) (putL id (C + 1) L)) w3) := X
    have lk2 := lk nq
    have wc : IntKind.i64.wrap (C + 1) = C + 1 := by rw [IntKind.wrap_i64]; omega
    clear X lk ln UP e0
    go_wp2_with fail
    go_end0
    exact ⟨rfl, FIN⟩
  · have hC0 : ¬ (0 : Int) < C := hA
    by_cases hB : L.length < m
    · go_quiet (fail)
      obtain ⟨w3, hup, X⟩ := UP.out nq
      have FIN : Hid (Goes T i w (Hl p m (n + 1) (putL id (C + 1) L)) w3) := X
      have lk2 := lk nq
      have wc : IntKind.i64.wrap (C + 1) = C + 1 := by rw [IntKind.wrap_i64]; omega
      clear X lk ln UP e0
      go_wp2_with fail
      go_end0
      exact ⟨rfl, FIN⟩
    · have hd : decide (L.length < m) = false := decide_eq_false hB
      go_quiet (fail)
      have K := take_at (HH.out.drewN nq) HL.out.2.1 1 (fun q hq => by have := HC.out q hq; unfold InI; omega) (by have := HL.out.1; omega)
      clear lk ln UP e0 e2
      go_wp2_with fail
      refine K.mono ?_
      rintro e w3 ⟨rfl, X⟩
      have FIN : Hid (Goes T i w (Hl p m (n + 1) (less 1 L)) w3) := by
        exact Goes.after (fun _ _ => rfl) (HG.out.drewN nq) X.out
      clear X K
      go_wp2_with fail
      go_end0
      exact ⟨rfl, FIN⟩

theorem ins_any {T : Tags} {i : Nat} {w : World} {p : Nat} {V : HV} (h : Hk p V T i w) {id : Int} (hid : InI id) :
    Calls Tryz.prog 278 #[.pointer (some ⟨p, 0, none⟩), .int .i64 id] w fun e w' => e = .returned (.tuple #[]) ∧ Hid (Goes T i w (Hk p (V.ins id)) w') := by
  obtain ⟨b, hk, hG⟩ := h
  have hG' := hG.ins hk.map.asc id
  by_cases hn : V.n = 1125899906842624
  · refine (full_ins hk hG.m1 hn id).mono ?_
    rintro e w' ⟨rfl, rfl⟩
    refine ⟨rfl, Goes.start ?_⟩
    have e : V.ins id = V := by unfold HV.ins; rw [if_pos hn]
    rw [e]
    exact ⟨b, hk, hG⟩
  · refine (ins_new hk hG.m1 hG.m64 (by have := hG.n50; omega) hid (by have := hG.len; have := hG.m64; omega) (fun q hq => ?_)).mono ?_
    · have h1 := hG.pos q hq
      have h2 := le_total hG.pos q hq
      have h3 := hG.sum
      have h4 := hG.n50
      omega
    · rintro e w' ⟨rfl, H⟩
      refine ⟨rfl, goes_map H.out fun T' ⟨b', hb'⟩ => ⟨b', ?_, hG'⟩⟩
      unfold HV.ins
      rw [if_neg hn]
      exact hb'
end Go.Proofs.YtlhpbfjelgmkeaaGreat.Hvy
/- Contracts of heavy's Top, New and Total: the greatest first, of several alike the lesser id. Conditions: a sketch that was made. -/
set_option maxRecDepth 100000
namespace Go.Proofs.YtlhpbfjelgmkeaaGreat.Hvy
open Go.RowKit Go.Maps Go.Sort Go.Shelf

/-- the greater count first, of several alike the lesser id -/
def ltTop (x y : Int × Int) : Bool := decide (y.2 < x.2) || (decide (x.2 = y.2) && decide (x.1 < y.1))
theorem ltTop_iff (x y : Int × Int) : ltTop x y = true ↔ (y.2 < x.2 ∨ (x.2 = y.2 ∧ x.1 < y.1)) := by simp [ltTop]
theorem ltTop_no (x y : Int × Int) : ltTop x y = false ↔ ¬ (y.2 < x.2 ∨ (x.2 = y.2 ∧ x.1 < y.1)) := by
  rw [← ltTop_iff]; simp
theorem swo_top : SWO ltTop where
  irrefl x := by rw [ltTop_no]; omega
  trans x y z h1 h2 := by rw [ltTop_iff] at *; omega
  ntrans x y z h1 h2 := by rw [ltTop_no] at *; omega
def cfTop (x y : Int × Int) : Int := Lib.compareInt y.2 x.2
theorem lt_cfTop (x y : Int × Int) : ltOf cfTop x y = decide (y.2 < x.2) := by
  unfold ltOf cfTop Lib.compareInt
  by_cases h1 : y.2 < x.2
  · simp [h1]
  · by_cases h2 : x.2 < y.2 <;> simp [h1, h2]
set_option maxHeartbeats 1000000 in
theorem closTop (x y : Int × Int) (W : World) : Calls Tryz.prog 286 #[.agg #[.int .i64 x.1, .int .i64 x.2], .agg #[.int .i64 y.1, .int .i64 y.2]] W fun e w' => e = .returned (.int .i64 (cfTop x y)) ∧ ∃ q os', w' = grow (W.drewN q) os' := by
  have hcon := fun W' => Tryz.cmp_Compare_int y.2 x.2 W'
  unfold cfTop
  generalize Lib.compareInt y.2 x.2 = r at hcon ⊢
  go_enter Tryz.func286, Tryz.ntmps286
  go_wp2_with fail
  refine (hcon _).mono ?_
  rintro e w' ⟨rfl, rfl⟩
  go_wp2_with fail
  go_ret
  exact ⟨rfl, 0, _, by rw [alloc_eq_grow, alloc_eq_grow, grow_grow]; rfl⟩

/-- R is L, the greatest first -/
structure Ranked (L R : CL) : Prop where
  perm : R.Perm L
  order : R.Pairwise fun x y => ltTop y x = false
theorem sort_top {w : World} {g c : Nat} {L : CL} (hR : RowP w g L) (hA : Asc L) (hl : L.length ≤ 1000000) :
    Calls Tryz.prog 285 #[.slice (some ⟨g, 0, none⟩) L.length c, .func (.func 286) #[] #[]] w fun e w' =>
      e = .returned (.tuple #[]) ∧ Hid (∃ R, Ranked L R ∧ RowP w' g R ∧ w.grownBy w' (some g)) := by
  have eg : ∀ args w, (callFunc 286 args).run Tryz.prog w = .ok (.enter 286 args) w := enters_of Tryz.func286 (by kernel_rfl) rfl
  have O : Ord 286 cfTop ltTop (fun x y => x.1 < y.1) w g 0 L.toArray :=
    { row := ⟨encP_len, encP_one, hR.1, hR.2⟩
      eg := eg
      cmp := fun m os dk _ x y => by
        have := closTop x y (sortWorldK encP 2 w g 0 m dk os)
        simpa [encP] using this
      swo := swo_top
      like := fun x y h => by
        rw [lt_cfTop, Bool.eq_iff_iff, ltTop_iff]
        simp; omega
      size := by simp; omega }
  have h := sortStable_any O c (fun i j hij hj => by
    have hj' : j < L.length := by simpa using hj
    rw [getElem!_pos L.toArray i (by simp; omega), getElem!_pos L.toArray j (by simpa using hj')]
    simp only [List.getElem_toArray]
    exact List.pairwise_iff_getElem.1 hA i j (by omega) hj' hij)
  have e0 : L.toArray.size = L.length := by simp
  rw [e0] at h
  refine h.mono ?_
  rintro e w' ⟨rfl, H⟩
  obtain ⟨d', h1, h2, h3⟩ := H.out
  have hd : d'.size = L.length := by rw [h2.1, e0]
  have hperm : d'.toList.Perm L := by
    have := h2.2.2
    have e1 : L.toArray.extract 0 L.length = L.toArray := by rw [← e0]; simp
    have e2 : d'.extract 0 L.length = d' := by rw [← hd]; simp
    rw [e1, e2] at this
    exact this
  have hord : d'.toList.Pairwise fun x y => ltTop y x = false := by
    refine List.pairwise_iff_getElem.2 fun i j hi hj hij => ?_
    have := h3 i j (Nat.zero_le _) hij (by simp at hj; omega)
    rw [getElem!_pos d' i (by simpa using hi), getElem!_pos d' j (by simpa using hj)] at this
    simpa using this
  have hS : SWK encP 2 w g 0 d'.toList.toArray w' := by simpa using h1
  obtain ⟨r1, r2⟩ := row_of_swk hR hS (by simpa using hd)
  exact ⟨rfl, d'.toList, ⟨hperm, hord⟩, r1, r2⟩

theorem ret_slice {a : Option Addr} {x y c : Nat} (h : x = y) : Ending.returned (.slice a x c) = Ending.returned (.slice a y c) := by rw [h]
/-- the first n of the greatest, in memory of the call's own -/
def TopAt (w : World) (L : CL) (n : Nat) (e : Ending) (w' : World) : Prop := ∃ g c R, e = .returned (.slice (some ⟨g, 0, none⟩) (min n L.length) c) ∧ w.heap.size ≤ g ∧ Ranked L R ∧ RowP w' g R ∧ Below w.heap.size w w'

set_option maxHeartbeats 2000000 in
theorem top_at {w : World} {p m b : Nat} {L : CL} (c0 : w.cell? ⟨p, 0, none⟩ = some (.int .i64 m)) (h1 : 1 ≤ m) (c2 : w.cell? ⟨p, 2, none⟩ = some (.map (some b))) (hM : MapAt w b L) (hl : L.length ≤ 100000) (n : Nat) (hn : n ≤ 1000000) :
    Calls Tryz.prog 281 #[.pointer (some ⟨p, 0, none⟩), .int .i64 n] w (TopAt w L n) := by
  have KC := counters_at c0 h1 c2 hM hl
  have HA := Lib.hid hM.asc
  clear c0 h1 c2 hM
  go_enter Tryz.func281, Tryz.ntmps281
  go_wp2_with fail
  refine KC.mono ?_
  rintro e w1 ⟨g, c, rfl, hg, hc, hR, hB⟩
  have KS := sort_top (c := c) hR HA.out (by omega)
  have HB := Lib.hid (And.intro hB (And.intro hg hc))
  clear KC hR hB hg
  go_wp2_with fail
  refine KS.mono ?_
  rintro e w2 ⟨rfl, H⟩
  clear KS
  have hmin : min n L.length ≤ c := by omega
  go_wp2_with fail
  go_ret
  obtain ⟨R, r1, r2, r3⟩ := H.out
  exact ⟨g, c, R, ret_slice (by omega), HB.out.2.1, r1, r2, HB.out.1.grown r3 HB.out.1.size (fun j hj => by cases hj; exact HB.out.2.1)⟩

/-- an empty sketch -/
def HV.none_ (m : Nat) : HV := ⟨m, 0, []⟩
theorem good_none {m : Nat} (h1 : 1 ≤ m) (h2 : m ≤ 64) : (HV.none_ m).Good := ⟨h1, h2, Nat.zero_le _, Nat.zero_le _, (fun p hp => by cases hp), Int.le_refl _⟩
set_option maxHeartbeats 1000000 in
theorem new_yes {w : World} {m : Nat} (h1 : 1 ≤ m) (h2 : m ≤ 64) (T : Tags) (i : Nat) :
    Calls Tryz.prog 64 #[.int .i64 m] w fun e w' => ∃ p, e = .returned (.pointer (some ⟨p, 0, none⟩)) ∧ Below w.heap.size w w' ∧ ∃ T', Next T w T' ∧ Hk p (HV.none_ m) T' i w' := by
  have z1 : ¬ (m : Int) < 1 := by omega
  have z2 : ¬ (64 : Int) < (m : Int) := by omega
  have hmm := @run_makeMap Tryz.prog
  have FIN : Hid (∃ p, (Ending.returned (.pointer (some ⟨w.heap.size + 1, 0, none⟩)) : Ending) = .returned (.pointer (some ⟨p, 0, none⟩)) ∧ Below w.heap.size w ((w.alloc (.map #[] 0)).alloc (.cells #[.int .i64 m, .int .i64 0, .map (some w.heap.size)] 203)) ∧
      ∃ T', Next T w T' ∧ Hk p (HV.none_ m) T' i ((w.alloc (.map #[] 0)).alloc (.cells #[.int .i64 m, .int .i64 0, .map (some w.heap.size)] 203))) := by
    refine ⟨_, rfl, ((Below.refl _ w).alloc (Nat.le_refl _) _).alloc (by simp) _, T.one w.heap.size (some i), T.one_next w _, w.heap.size, ?_, good_none h1 h2⟩
    refine ⟨?_, by unfold Tags.one; rw [if_neg (by omega)], ?_, by unfold Tags.one; rw [if_neg (by omega)]⟩
    · have := heap_alloc_new (w.alloc (.map #[] 0)) (.cells #[.int .i64 m, .int .i64 0, .map (some w.heap.size)] 203)
      rw [World.size_alloc] at this
      exact this
    · exact (MapAt.made w).of_block (heap_alloc_old _ _ (by simp))
  clear h1 h2
  go_enter Tryz.func64, Tryz.ntmps64
  go_wp2_with fail
  go_ret
  exact FIN.out
theorem new_no {w : World} {m : Int} (h : m < 1 ∨ 64 < m) :
    Calls Tryz.prog 64 #[.int .i64 m] w fun e w' => e = .returned (.pointer none) ∧ w = w' := by
  rcases h with h | h
  · go_enter Tryz.func64, Tryz.ntmps64
    go_wp2_with fail
    go_ret
    exact ⟨rfl, rfl⟩
  · have h' : ¬ m < 1 := by omega
    go_enter Tryz.func64, Tryz.ntmps64
    go_wp2_with fail
    go_ret
    exact ⟨rfl, rfl⟩
end Go.Proofs.YtlhpbfjelgmkeaaGreat.Hvy
/- Contract of heavy's Merge of two sketches of one size. Conditions: sketches that were made, with room. -/
set_option maxRecDepth 100000
namespace Go.Proofs.YtlhpbfjelgmkeaaGreat.Hvy
open Go.RowKit Go.Maps Go.Sort Go.Shelf

def addP (a : CL) (p : Int × Int) : CL := putL p.1 (cnt a p.1 + p.2) a
def addL (L M : CL) : CL := M.foldl addP L
theorem addL_snoc (L M : CL) (p : Int × Int) : addL L (M ++ [p]) = addP (addL L M) p := by simp [addL]
theorem asc_addL {L : CL} (h : Asc L) : ∀ M : CL, Asc (addL L M)
  | [] => h
  | p :: r => asc_addL (L := addP L p) (asc_putL h _ _) r
theorem addP_pos {a : CL} (h : ∀ q ∈ a, 1 ≤ q.2) {p : Int × Int} (hp : 1 ≤ p.2) : ∀ q ∈ addP a p, 1 ≤ q.2 := fun q hq => by
  rcases putL_sub hq with rfl | hq
  · have := cnt_nonneg h p.1
    show 1 ≤ cnt a p.1 + p.2; omega
  · exact h q hq
theorem addL_pos {L : CL} (h : ∀ q ∈ L, 1 ≤ q.2) : ∀ M : CL, (∀ q ∈ M, 1 ≤ q.2) → ∀ q ∈ addL L M, 1 ≤ q.2
  | [], _ => h
  | p :: r, hm => addL_pos (L := addP L p) (addP_pos h (hm p (List.mem_cons_self ..))) r fun q hq => hm q (List.mem_cons_of_mem _ hq)
theorem addL_total {L : CL} (h : Asc L) : ∀ M : CL, total (addL L M) = total L + total M
  | [] => by simp [addL, total]
  | p :: r => by
    have e := addL_total (L := addP L p) (asc_putL h _ _) r
    show total (addL (addP L p) r) = _
    rw [e, total_cons]
    unfold addP
    rw [total_putL h]; omega
theorem addL_len {L : CL} : ∀ M : CL, (addL L M).length ≤ L.length + M.length
  | [] => Nat.le_refl _
  | p :: r => by
    have e := addL_len (L := addP L p) r
    have := putL_len L p.1 (cnt L p.1 + p.2)
    show (addL (addP L p) r).length ≤ _
    unfold addP at e ⊢
    rw [List.length_cons]; omega
theorem addL_cnt {L : CL} (h : Asc L) (x : Int) : ∀ M : CL, Asc M → cnt (addL L M) x = cnt L x + cnt M x
  | [], _ => by simp [addL, cnt]
  | p :: r, hM => by
    have e := addL_cnt (L := addP L p) (asc_putL h _ _) x r (asc_tail hM)
    show cnt (addL (addP L p) r) x = _
    rw [e]
    unfold addP
    rw [cnt_putL h]
    show _ = _ + if p.1 = x then p.2 else cnt r x
    by_cases g : p.1 = x
    · rw [if_pos g, if_pos g.symm, g, cnt_none (L := r) (id := x)]
      · omega
      · intro q hq; have := asc_head hM q hq; omega
    · rw [if_neg g, if_neg (fun e => g e.symm)]
theorem ranked_le {A R : CL} (h : Ranked A R) {m : Nat} {q : Int × Int} (hq : R[m]? = some q) : ∀ x ∈ R.drop m, x.2 ≤ q.2 := by
  obtain ⟨hm, e⟩ := List.getElem?_eq_some_iff.1 hq
  intro x hx
  obtain ⟨k, hk, rfl⟩ := List.mem_iff_getElem.1 hx
  rw [List.getElem_drop]
  rcases Nat.eq_zero_or_pos k with rfl | hk0
  · simp only [Nat.add_zero]; rw [e]; exact Int.le_refl _
  · have := List.pairwise_iff_getElem.1 h.order m (m + k) hm (by simp at hk; omega) (by omega)
    rw [e, ltTop_no] at this
    omega
theorem less_len_eq (c : Int) (A : CL) : (less c A).length = (A.filter fun p => decide (c < p.2)).length := by
  induction A with
  | nil => rfl
  | cons p r ih =>
    rw [less_cons]
    by_cases h : p.2 - c ≤ 0
    · rw [if_pos h, List.filter_cons_of_neg (by simp; omega), ih]
    · rw [if_neg h, List.filter_cons_of_pos (by simp; omega), List.length_cons, List.length_cons, ih]
theorem less_few {A R : CL} (h : Ranked A R) {m : Nat} {q : Int × Int} (hq : R[m]? = some q) : (less q.2 A).length ≤ m := by
  rw [less_len_eq, ← (h.perm.filter _).length_eq]
  rw [← List.take_append_drop m R, List.filter_append, List.length_append]
  have e : (R.drop m).filter (fun p => decide (q.2 < p.2)) = [] := List.filter_eq_nil_iff.2 fun x hx => by
    have := ranked_le h hq x hx
    simp; omega
  rw [e]
  exact Nat.le_trans (List.length_filter_le _ _) (by simp; omega)

/-- what a merge leaves -/
def MergeP (V U V' : HV) : Prop := V'.m = V.m ∧ V'.n = V.n + U.n ∧
  (((addL V.L U.L).length ≤ V.m ∧ V'.L = addL V.L U.L) ∨ (V.m < (addL V.L U.L).length ∧ ∃ R q, Ranked (addL V.L U.L) R ∧ R[V.m]? = some q ∧ V'.L = less q.2 (addL V.L U.L)))
theorem MergeP.good {V U V' : HV} (h : MergeP V U V') (hV : V.Good) (hU : U.Good) (hA : Asc V.L) (hn : V.n + U.n ≤ 1125899906842624) : V'.Good := by
  obtain ⟨h1, h2, h3⟩ := h
  have pos := addL_pos hV.pos U.L hU.pos
  have tot := addL_total hA U.L
  have s1 := hV.sum
  have s2 := hU.sum
  refine ⟨by rw [h1]; exact hV.m1, by rw [h1]; exact hV.m64, by rw [h2]; exact hn, ?_, ?_, ?_⟩
  · rw [h1]
    rcases h3 with ⟨a, b⟩ | ⟨_, R, q, a, b, c⟩
    · rw [b]; exact a
    · rw [c]; exact less_few a b
  · rcases h3 with ⟨a, b⟩ | ⟨_, R, q, a, b, c⟩
    · rw [b]; exact pos
    · rw [c]; exact less_pos
  · rw [h2]
    rcases h3 with ⟨a, b⟩ | ⟨_, R, q, a, b, c⟩
    · rw [b, tot]; omega
    · rw [c]
      have hq : 1 ≤ q.2 := pos q (a.perm.mem_iff.1 (List.mem_of_getElem? b))
      have := total_less (k := q.2) (by omega) pos
      omega

/-- how the loop of Merge stands -/
structure AddAt (w1 wr : World) (p m n b g : Nat) (L M : CL) (j : Nat) : Prop where
  head : wr.heap[p]? = some (.cells #[.int .i64 m, .int .i64 n, .map (some b)] 203 (0, 0))
  row : RowP wr g M
  map : MapAt wr b (addL L (M.take j))
  own : w1.grownBy wr (some b)
theorem add_step {w1 wr : World} {p m n b g j : Nat} {L M : CL} (h : AddAt w1 wr p m n b g L M j) (hA : Asc L) (hpb : p ≠ b) (hgb : g ≠ b) (h1 : ∀ q ∈ L, 1 ≤ q.2) (h2 : ∀ q ∈ M, 1 ≤ q.2) (ht : total L + total M ≤ 4503599627370496) (hl : L.length + M.length ≤ 100000) (hi : ∀ q ∈ M, InI q.1) {q : Int × Int} (hq : M[j]? = some q) (o : Obj) :
    ∃ C, 0 ≤ C ∧ C + q.2 ≤ 4503599627370496 ∧ (∀ x, (Instr.lookup 201 (.map (some b)) (.int .i64 q.1) false).run Tryz.prog ((wr.alloc o).drewN x) = .ok (.int .i64 C) ((wr.alloc o).drewN x)) ∧
    ∃ w3, (Instr.mapUpdate 201 (.map (some b)) (.int .i64 q.1) (.int .i64 (C + q.2))).run Tryz.prog (wr.alloc o).drew = .ok () w3 ∧ AddAt w1 w3 p m n b g L M (j + 1) := by
  obtain ⟨hj, e0⟩ := List.getElem?_eq_some_iff.1 hq
  have hb := h.map.lt
  have e : ∀ r, r < wr.heap.size → (wr.alloc o).heap[r]? = wr.heap[r]? := fun r hr => heap_alloc_old wr o hr
  have hM : ∀ x, MapAt ((wr.alloc o).drewN x) b (addL L (M.take j)) := fun x => h.map.of_block (e b hb)
  have hqm : q ∈ M := List.mem_of_getElem? hq
  have hqi := hi q hqm
  have pos := addL_pos h1 (M.take j) fun x hx => h2 x (List.mem_of_mem_take hx)
  have t0 := addL_total hA (M.take j)
  have et : M.take (j + 1) = M.take j ++ [q] := by rw [List.take_succ_eq_append_getElem hj, e0]
  have t1 : total M = total (M.take j) + q.2 + total (M.drop (j + 1)) := by
    conv => lhs; rw [← List.take_append_drop (j + 1) M]
    rw [total_append, et, total_append]
    simp [total]
  have t2 := total_nonneg (L := M.drop (j + 1)) fun x hx => h2 x (List.mem_of_mem_drop hx)
  have c0 := cnt_nonneg pos q.1
  have c1 : cnt (addL L (M.take j)) q.1 ≤ total (addL L (M.take j)) := by
    by_cases z : cnt (addL L (M.take j)) q.1 = 0
    · have := total_nonneg pos; omega
    · exact le_total pos _ (mem_of_cnt z)
  have hq1 := h2 q hqm
  have hlen := addL_len (L := L) (M.take j)
  have hlen2 : (M.take j).length ≤ M.length := by simp; omega
  refine ⟨cnt (addL L (M.take j)) q.1, c0, by omega, fun x => (hM x).lookup hqi, ?_⟩
  obtain ⟨w3, k1, k2, k3⟩ := (hM 1).update hqi (c := cnt (addL L (M.take j)) q.1 + q.2) (by unfold InI; omega) (by unfold maxLen; omega)
  have ea : putL q.1 (cnt (addL L (M.take j)) q.1 + q.2) (addL L (M.take j)) = addL L (M.take (j + 1)) := by rw [et, addL_snoc]; rfl
  rw [ea] at k2
  refine ⟨w3, k1, ?_, ?_, k2, ?_⟩
  · rw [k3.block p (by simp [World.drewN]; have := lt_of_heap h.head; omega) (by simp [hpb])]
    exact (e p (lt_of_heap h.head)).trans h.head
  · refine h.row.of_block ?_ ?_
    · rw [k3.block g (by simp [World.drewN]; have := h.row.2; omega) (by simp [hgb])]
      exact e g h.row.2
    · exact Nat.le_trans (by simp [World.drewN]) k3.size
  · exact (h.own.andThen (World.grownBy_alloc wr o none) (fun j hj => by cases hj)).andThen (⟨k3.os, k3.tape, k3.output, k3.size, k3.block⟩ : (wr.alloc o).grownBy w3 (some b)) (fun j hj => .inr hj)

set_option maxHeartbeats 16000000 in
theorem merge_two {T : Tags} {i j : Nat} {w : World} {p q : Nat} {V U : HV} (h : Hk p V T i w) (h' : Hk q U T j w) (hij : i ≠ j) (hm : U.m = V.m) (hn : V.n + U.n ≤ 1125899906842624) :
    Calls Tryz.prog 277 #[.pointer (some ⟨p, 0, none⟩), .pointer (some ⟨q, 0, none⟩)] w fun e w' => e = .returned (.int .i64 0) ∧ Hid (∃ V', MergeP V U V' ∧ Goes T i w (Hk p V') w') := by
  obtain ⟨b, h, hV⟩ := h
  obtain ⟨b', h', hU⟩ := h'
  obtain ⟨c0, c1, c2, f0⟩ := h.cells
  obtain ⟨d0, d1, d2, _⟩ := h'.cells
  rw [hm] at d0
  have f1 := f0 1
  have hpq : p ≠ q := by
    rintro rfl
    have e1 := h.tp
    have e2 := h'.tp
    rw [e1] at e2
    exact hij (Option.some.inj e2)
  have hpb' : p ≠ b' := by
    rintro rfl
    have e1 := h.tp
    have e2 := h'.tb
    rw [e1] at e2
    exact hij (Option.some.inj e2)
  have KP := made_yes c0 hV.m1
  have KQ := Lib.hid (fun n => made_yes (w := w.drewN n) (p := q) (m := V.m) (by exact d0) hV.m1)
  have hs : ¬ (1125899906842624 : Int) - (V.n : Int) < (U.n : Int) := by omega
  have ws : IntKind.i64.wrap ((1125899906842624 : Int) - (V.n : Int)) = (1125899906842624 : Int) - (V.n : Int) := by rw [IntKind.wrap_i64]; omega
  have wn : IntKind.i64.wrap ((V.n : Int) + (U.n : Int)) = (V.n : Int) + (U.n : Int) := by rw [IntKind.wrap_i64]; omega
  have HH := Lib.hid (And.intro h h')
  have HG := Lib.hid (And.intro hV hU)
  have HM := Lib.hid (And.intro hm hn)
  have HPQ := Lib.hid (And.intro hpq (And.intro hij hpb'))
  clear h h' hV hU hm hn f0 hpq hij hpb'
  go_enter Tryz.func277, Tryz.ntmps277
  go_wp2_with fail
  refine KP.mono ?_
  rintro e w' ⟨rfl, rfl⟩
  clear KP
  go_wp2_with fail
  go_quiet ((exact Calls.quiet_of_same ((KQ.out _).mono fun _ _ ⟨h, hw⟩ => ⟨h, hw.symm⟩)))
  go_wp2_with fail
  obtain ⟨W, hW⟩ : ∃ W, w.drewN nq = W := ⟨_, rfl⟩
  have HA : Hid (HkAt T i W p V.m V.n b V.L ∧ HkAt T j W q V.m U.n b' U.L ∧ Else (fun x => T x = some i) w W) := by
    rw [← hW]
    have e2 := HH.out.2
    rw [HM.out.1] at e2
    exact ⟨HH.out.1.drewN nq, e2.drewN nq, (Else.refl _ w).drewN nq⟩
  rw [hW]
  clear hW nq c0 c1 c2 d0 d1 d2 f1 KQ HH
  obtain ⟨c0, c1, c2, f0⟩ := HA.out.1.cells
  obtain ⟨d0, d1, d2, _⟩ := HA.out.2.1.cells
  have f1 := f0 1
  clear f0
  go_quiet (fail)
  obtain ⟨W1, hW⟩ : ∃ W1, W.drewN nq = W1 := ⟨_, rfl⟩
  have HB : Hid (HkAt T i W1 p V.m V.n b V.L ∧ HkAt T j W1 q V.m U.n b' U.L ∧ Else (fun x => T x = some i) w W1) := by
    rw [← hW]
    exact ⟨HA.out.1.drewN nq, HA.out.2.1.drewN nq, HA.out.2.2.drewN nq⟩
  rw [hW]
  clear hW nq c0 c1 c2 d0 d1 d2 f1 HA
  obtain ⟨c0, c1, c2, f0⟩ := HB.out.1.cells
  obtain ⟨d0, d1, d2, _⟩ := HB.out.2.1.cells
  have f1 := f0 1
  clear f0
  go_wp2_with fail
  clear hs ws
  go_region
  clear c0 c1 c2 d0 d1 d2 f1 wn
  go_wp2_with fail
  obtain ⟨W2, hW⟩ : ∃ W2, (W1.setCell ⟨p, 1, none⟩ (.int .i64 ((V.n : Int) + (U.n : Int)))).drew = W2 := ⟨_, rfl⟩
  have HD : Hid (HkAt T i W2 p V.m (V.n + U.n) b V.L ∧ HkAt T j W2 q V.m U.n b' U.L ∧ Else (fun x => T x = some i) w W2) := by
    have e1 := (HB.out.1.set_total (V.n + U.n)).drewN 1
    have e2 : HkAt T j ((W1.setCell ⟨p, 1, none⟩ (.int .i64 ((V.n + U.n : Nat) : Int))).drewN 1) q V.m U.n b' U.L :=
      ⟨(Below.heap_setCell _ _ _ _ (fun e => HPQ.out.1 e.symm)).trans HB.out.2.1.head, HB.out.2.1.tp, HB.out.2.1.map.of_block (Below.heap_setCell _ _ _ _ (fun e => HPQ.out.2.2 e.symm)), HB.out.2.1.tb⟩
    have e3 := (HB.out.2.2.setCell (p := ⟨p, 1, none⟩) (.inl HB.out.1.tp) (.int .i64 ((V.n + U.n : Nat) : Int))).drewN 1
    have e4 : ((V.n + U.n : Nat) : Int) = (V.n : Int) + (U.n : Int) := by simp
    rw [e4] at e1 e2 e3
    rw [← hW]
    exact ⟨e1, e2, e3⟩
  rw [hW]
  clear hW HB
  obtain ⟨d0, _, d2, _⟩ := HD.out.2.1.cells
  have hl1 := HG.out.1.len
  have hl2 := HG.out.2.len
  have hl3 := HG.out.1.m64
  have hl4 := HM.out.1
  have KC := counters_at d0 HG.out.1.m1 d2 HD.out.2.1.map (by omega)
  clear d0 d2
  refine KC.mono ?_
  rintro e w3 ⟨g, c, rfl, hg, hc, hR, hBel⟩
  have hb := HD.out.1.map.lt
  have hp := lt_of_heap HD.out.1.head
  have X0 : Hid (AddAt w3 w3 p V.m (V.n + U.n) b g V.L U.L 0) := Lib.hid
    { head := (hBel.block p hp).trans HD.out.1.head
      row := hR
      map := HD.out.1.map.of_block (hBel.block b hb)
      own := World.grownBy.refl _ _ }
  have hgb : g ≠ b := by omega
  have HE : Hid (Else (fun x => T x = some i) w w3) := HD.out.2.2.trans (Else.of_below (O := fun _ => False) hBel) (fun _ h => h.elim)
  have hl0 : (U.L.length : Int) ≤ 100 := by omega
  have HI : Hid (∀ x ∈ U.L, InI x.1) := fun x hx => (HD.out.2.1.map.inI x hx).1
  have HAS : Hid (Asc V.L) := HD.out.1.map.asc
  have HTB : Hid (T b = some i ∧ T p = some i ∧ p ≠ b) := ⟨HD.out.1.tb, HD.out.1.tp, HD.out.1.ne⟩
  clear KC hR hBel hg hc hb hp HD
  go_wp2_with fail
  go_loopw [52] (fun s wr => ∃ k : Nat, s = .int .i64 k ∧ k ≤ U.L.length ∧ Hid (AddAt w3 wr p V.m (V.n + U.n) b g V.L U.L k)) (fun s _ => U.L.length - (intOf s).toNat)
  case atStart => exact ⟨0, rfl, Nat.zero_le _, X0⟩
  case round =>
    clear X0
    obtain ⟨k, rfl, hk, HX⟩ := hrel
    by_cases hlt : k < U.L.length
    · have hz : (k : Int) < (U.L.length : Int) := by omega
      obtain ⟨y, hy⟩ : ∃ y, U.L[k]? = some y := ⟨_, List.getElem?_eq_getElem hlt⟩
      obtain ⟨r0, r1, _, _⟩ := HX.out.row.cell hy
      have hs1 := HG.out.1.sum
      have hs2 := HG.out.2.sum
      have hs3 := HM.out.2
      obtain ⟨C, C0, C1, hlk, w4, hup, hX4⟩ := add_step HX.out HAS.out HTB.out.2.2 hgb HG.out.1.pos HG.out.2.pos (by omega) (by omega) HI.out hy (.cells #[.int .i64 y.1, .int .i64 y.2] 344)
      have cc2 : wr.cell? ⟨p, 2, none⟩ = some (.map (some b)) := by rw [cell_of_row _ _ _ _ _ _ HX.out.head]; rfl
      have hlk1 := hlk 1
      have hy1 := HG.out.2.pos y (List.mem_of_getElem? hy)
      have wk : IntKind.i64.wrap (C + y.2) = C + y.2 := by rw [IntKind.wrap_i64]; omega
      have X4 := Lib.hid hX4
      clear hy hlk hX4 HX hs1 hs2 hs3 C0 C1 hy1
      go_wp2_with fail
      obtain ⟨W, hW⟩ : ∃ W, wr.alloc (.cells #[.int .i64 y.1, .int .i64 y.2] 344) = W := ⟨_, rfl⟩
      have d2 : W.cell? ⟨p, 2, none⟩ = some (.map (some b)) := by
        rw [← hW, ((Below.refl _ wr).alloc (Nat.le_refl _) _).cell (World.block_lt_of_cell? wr _ cc2)]; exact cc2
      have d0 : W.cell? ⟨wr.heap.size, 0, none⟩ = some (.int .i64 y.1) := by
        rw [cell_of_row _ _ _ _ _ _ (hW ▸ heap_alloc_new wr _)]; rfl
      have d1 : W.cell? ⟨wr.heap.size, 1, none⟩ = some (.int .i64 y.2) := by
        rw [cell_of_row _ _ _ _ _ _ (hW ▸ heap_alloc_new wr _)]; rfl
      rw [hW] at hup hlk1 ⊢
      have hlk2 : Sem.run Tryz.prog (Instr.lookup 201 (.map (some b)) (.int .i64 y.1) false) W.drew = .ok (.int .i64 C) W.drew := hlk1
      clear hW hlk1 cc2 r0 r1
      go_region
      clear d2 d0 d1 hup hlk2 wk
      go_wp2_with fail
      go_roundw
      case rel => exact ⟨k + 1, by go_num, by omega, X4⟩
      case measure => simp [intOf]; omega
    · obtain rfl : k = U.L.length := by omega
      have hM := HX.out.map
      rw [List.take_length] at hM
      have e0 : wr.cell? ⟨p, 0, none⟩ = some (.int .i64 V.m) := by rw [cell_of_row _ _ _ _ _ _ HX.out.head]; rfl
      have e2 : wr.cell? ⟨p, 2, none⟩ = some (.map (some b)) := by rw [cell_of_row _ _ _ _ _ _ HX.out.head]; rfl
      have hlen := addL_len (L := V.L) U.L
      have KT := top_at e0 HG.out.1.m1 e2 hM (by omega) (V.m + 1) (by omega)
      rw [Int.natCast_add] at KT
      have wm : IntKind.i64.wrap ((V.m : Int) + 1) = (V.m : Int) + 1 := by rw [IntKind.wrap_i64]; omega
      have HMA := Lib.hid hM
      clear hM hlen e2
      go_wp2_with fail
      refine KT.mono ?_
      rintro e w4 ⟨g2, c2, R, rfl, hg2, hRk, hRow, hBel⟩
      have hbw := HX.out.map.lt
      have hpw := lt_of_heap HX.out.head
      have H4 : Hid (HkAt T i w4 p V.m (V.n + U.n) b (addL V.L U.L)) := ⟨(hBel.block p hpw).trans HX.out.head, HTB.out.2.1, HMA.out.of_block (hBel.block b hbw), HTB.out.1⟩
      have E4 : Hid (Else (fun x => T x = some i) w w4) := (HE.out.trans (Else.of_grown HX.out.own) (fun x hx => .inl (by cases hx; exact HTB.out.1))).trans (Else.of_below (O := fun _ => False) hBel) (fun _ h => h.elim)
      obtain ⟨f0, _, _, _⟩ := H4.out.cells
      have HRK := Lib.hid hRk
      have HP : Hid (∀ V', MergeP V U V' → V'.Good) := fun V' h => h.good HG.out.1 HG.out.2 HAS.out HM.out.2
      obtain ⟨A, hA⟩ : ∃ A, addL V.L U.L = A := ⟨_, rfl⟩
      have HAE := Lib.hid hA
      rw [hA] at H4 HRK ⊢
      clear KT wm hRk hBel hg2 e0 HX HMA hbw hpw hA
      by_cases hc : A.length ≤ V.m
      · obtain ⟨K, hK⟩ : ∃ K, min (V.m + 1) A.length = K := ⟨_, rfl⟩
        have hd : decide (V.m < K) = false := decide_eq_false (by omega)
        have FIN : Hid (∃ V', MergeP V U V' ∧ Goes T i w (Hk p V') w4) := by
          have hMP : MergeP V U ⟨V.m, V.n + U.n, A⟩ := ⟨rfl, rfl, .inl ⟨by rw [HAE.out]; exact hc, HAE.out.symm⟩⟩
          exact ⟨_, hMP, T, fun _ _ => rfl, E4.out, b, H4.out, HP.out _ hMP⟩
        rw [hK]
        clear hK hc
        go_wp2_with fail
        go_ret
        exact ⟨rfl, FIN⟩
      · obtain ⟨K, hK⟩ : ∃ K, min (V.m + 1) A.length = K := ⟨_, rfl⟩
        have hd : decide (V.m < K) = true := decide_eq_true (by omega)
        have hd2 : V.m < K := by omega
        have hrl : R.length = A.length := HRK.out.perm.length_eq
        obtain ⟨y, hy⟩ : ∃ y, R[V.m]? = some y := ⟨_, List.getElem?_eq_getElem (by omega)⟩
        obtain ⟨_, r1, _, _⟩ := hRow.cell hy
        have pos : ∀ x ∈ A, 1 ≤ x.2 := by rw [← HAE.out]; exact addL_pos HG.out.1.pos U.L HG.out.2.pos
        have hyA : y ∈ A := HRK.out.perm.mem_iff.1 (List.mem_of_getElem? hy)
        have tot : total A ≤ 2251799813685248 := by
          rw [← HAE.out, addL_total HAS.out]
          have := HG.out.1.sum; have := HG.out.2.sum; have := HM.out.2
          omega
        have hal : A.length ≤ 200 := by rw [← HAE.out]; have := addL_len (L := V.L) U.L; omega
        have KT := take_at H4.out HG.out.1.m1 y.2 (fun x hx => by
          have a1 := pos x hx; have a2 := le_total pos x hx; have a3 := pos y hyA; have a4 := le_total pos y hyA
          unfold InI; omega) (by omega)
        have FIN : Hid (∀ w5, Goes T i w4 (Hl p V.m (V.n + U.n) (less y.2 A)) w5 → ∃ V', MergeP V U V' ∧ Goes T i w (Hk p V') w5) := Lib.hid fun w5 hg => by
          have hMP : MergeP V U ⟨V.m, V.n + U.n, less y.2 A⟩ := ⟨rfl, rfl, .inr ⟨by rw [HAE.out]; omega, R, y, by rw [HAE.out]; exact HRK.out, hy, by rw [HAE.out]⟩⟩
          exact ⟨_, hMP, Goes.after (fun _ _ => rfl) E4.out (goes_map hg fun T' ⟨b2, hb2⟩ => ⟨b2, hb2, HP.out _ hMP⟩)⟩
        rw [hK]
        clear hK hc hrl hy pos hyA tot hal hRow
        go_wp2_with fail
        refine KT.mono ?_
        rintro e w5 ⟨rfl, H5⟩
        clear KT
        go_wp2_with fail
        go_ret
        exact ⟨rfl, FIN.out w5 H5.out⟩
end Go.Proofs.YtlhpbfjelgmkeaaGreat.Hvy
