/- Counters as a list by id: plain mathematics of the sketch of package heavy, and of a map of ints. Conditions: none. -/
import Derived.Test.YtkmonecolkamjaaGen
import Derived.Maps.OwnSet
import Derived.Maps.RangeWalk
import Derived.Maps.Ext
import Derived.Lib.SlMapFilter
set_option maxRecDepth 100000
namespace Go.Proofs.Ytkmonecolkamjaa
open Go.RowKit Go.Maps Go.Sort

abbrev CL := List (Int × Int)
/-- ids rise -/
def Asc (L : CL) : Prop := L.Pairwise fun p q => p.1 < q.1
/-- how often an id came -/
def cnt : CL → Int → Int
  | [], _ => 0
  | p :: r, id => if p.1 = id then p.2 else cnt r id
/-- an id's count anew -/
def putL (id c : Int) : CL → CL
  | [] => [(id, c)]
  | p :: r => if id < p.1 then (id, c) :: p :: r else if p.1 = id then (id, c) :: r else p :: putL id c r

theorem asc_tail {p : Int × Int} {r : CL} (h : Asc (p :: r)) : Asc r := (List.pairwise_cons.1 h).2
theorem asc_head {p : Int × Int} {r : CL} (h : Asc (p :: r)) : ∀ q ∈ r, p.1 < q.1 := (List.pairwise_cons.1 h).1
theorem cnt_none {L : CL} {id : Int} (h : ∀ p ∈ L, p.1 ≠ id) : cnt L id = 0 := by
  induction L with
  | nil => rfl
  | cons p r ih =>
    unfold cnt
    rw [if_neg (h p (List.mem_cons_self ..))]
    exact ih fun q hq => h q (List.mem_cons_of_mem _ hq)
theorem cnt_mem {L : CL} (hA : Asc L) {id c : Int} (h : (id, c) ∈ L) : cnt L id = c := by
  induction L with
  | nil => cases h
  | cons p r ih =>
    unfold cnt
    rcases List.mem_cons.1 h with rfl | h
    · rw [if_pos rfl]
    · rw [if_neg (by have := asc_head hA _ h; simp only at this; omega)]
      exact ih (asc_tail hA) h
theorem mem_of_cnt {L : CL} {id : Int} (h : cnt L id ≠ 0) : (id, cnt L id) ∈ L := by
  induction L with
  | nil => exact absurd rfl h
  | cons p r ih =>
    unfold cnt at h ⊢
    by_cases e : p.1 = id
    · rw [if_pos e] at h ⊢
      obtain ⟨a, b⟩ := p
      simp only at e
      subst e
      exact List.mem_cons_self ..
    · rw [if_neg e] at h ⊢
      exact List.mem_cons_of_mem _ (ih h)
theorem putL_mem {L : CL} {id c : Int} {p : Int × Int} (h : p ∈ putL id c L) : p = (id, c) ∨ (p ∈ L ∧ p.1 ≠ id) ∨ (p ∈ L ∧ p.1 = id ∧ False) ∨ p ∈ L := by
  induction L with
  | nil => simp [putL] at h; exact .inl h
  | cons q r ih =>
    unfold putL at h
    split at h
    · rcases List.mem_cons.1 h with rfl | h
      · exact .inl rfl
      · exact .inr (.inr (.inr h))
    · split at h
      · rcases List.mem_cons.1 h with rfl | h
        · exact .inl rfl
        · exact .inr (.inr (.inr (List.mem_cons_of_mem _ h)))
      · rcases List.mem_cons.1 h with rfl | h
        · exact .inr (.inr (.inr (List.mem_cons_self ..)))
        · rcases ih h with e | e | e | e
          · exact .inl e
          · exact .inr (.inr (.inr (List.mem_cons_of_mem _ e.1)))
          · exact e.2.2.elim
          · exact .inr (.inr (.inr (List.mem_cons_of_mem _ e)))
theorem putL_sub {L : CL} {id c : Int} {p : Int × Int} (h : p ∈ putL id c L) : p = (id, c) ∨ p ∈ L := by
  rcases putL_mem h with e | e | e | e
  · exact .inl e
  · exact .inr e.1
  · exact .inr e.1
  · exact .inr e
theorem asc_putL {L : CL} (hA : Asc L) (id c : Int) : Asc (putL id c L) := by
  induction L with
  | nil => exact List.pairwise_singleton _ _
  | cons q r ih =>
    have h1 := asc_head hA
    have h2 := asc_tail hA
    unfold putL
    split
    · rename_i g
      refine List.pairwise_cons.2 ⟨fun x hx => ?_, hA⟩
      rcases List.mem_cons.1 hx with rfl | hx
      · exact g
      · exact Int.lt_trans g (h1 x hx)
    · split
      · rename_i g
        refine List.pairwise_cons.2 ⟨fun x hx => ?_, h2⟩
        rw [← g]; exact h1 x hx
      · rename_i g1 g2
        refine List.pairwise_cons.2 ⟨fun x hx => ?_, ih h2⟩
        rcases putL_sub hx with rfl | hx
        · show q.1 < id; omega
        · exact h1 x hx
theorem putL_len (L : CL) (id c : Int) : (putL id c L).length ≤ L.length + 1 := by
  induction L with
  | nil => exact Nat.le_refl _
  | cons q r ih =>
    unfold putL
    split
    · simp
    · split
      · simp
      · simp; omega
theorem putL_len_mem {L : CL} (hA : Asc L) {id : Int} {c : Int} (h : ∃ p ∈ L, p.1 = id) : (putL id c L).length = L.length := by
  induction L with
  | nil => obtain ⟨p, hp, _⟩ := h; cases hp
  | cons q r ih =>
    obtain ⟨p, hp, e⟩ := h
    unfold putL
    rcases List.mem_cons.1 hp with rfl | hp
    · rw [if_neg (by omega), if_pos e]; simp
    · have := asc_head hA p hp
      rw [if_neg (by omega), if_neg (by omega)]
      simp [ih (asc_tail hA) ⟨p, hp, e⟩]
theorem putL_at {A B : CL} {id c0 c : Int} (h : Asc (A ++ (id, c0) :: B)) : putL id c (A ++ (id, c0) :: B) = A ++ (id, c) :: B := by
  induction A with
  | nil =>
    show putL id c ((id, c0) :: B) = _
    unfold putL
    rw [if_neg (by simp), if_pos rfl]; rfl
  | cons q r ih =>
    have h1 := asc_head h (id, c0) (by simp)
    show putL id c (q :: (r ++ (id, c0) :: B)) = _
    unfold putL
    simp only at h1
    rw [if_neg (by omega), if_neg (by omega), ih (asc_tail h)]; rfl
theorem cnt_putL {L : CL} (hA : Asc L) (id c x : Int) : cnt (putL id c L) x = if x = id then c else cnt L x := by
  induction L with
  | nil => simp [putL, cnt, eq_comm]
  | cons q r ih =>
    unfold putL
    split
    · rename_i g
      show (if id = x then c else cnt (q :: r) x) = _
      by_cases e : x = id
      · rw [if_pos e, if_pos e.symm]
      · rw [if_neg e, if_neg (fun h => e h.symm)]
    · split
      · rename_i g1 g2
        show (if id = x then c else cnt r x) = _
        by_cases e : x = id
        · rw [if_pos e, if_pos e.symm]
        · rw [if_neg e, if_neg (fun h => e h.symm)]
          show _ = if q.1 = x then q.2 else cnt r x
          rw [if_neg (by omega)]
      · rename_i g1 g2
        show (if q.1 = x then q.2 else cnt (putL id c r) x) = if x = id then c else if q.1 = x then q.2 else cnt r x
        rw [ih (asc_tail hA)]
        by_cases e : q.1 = x
        · rw [if_pos e, if_pos e, if_neg (by omega)]
        · rw [if_neg e, if_neg e]

/-- the datum that a map of ints reads as -/
def ent (p : Int × Int) : Lit × DataW Unit := (.int .i64 p.1, .lit (.int .i64 p.2))
def mapD (L : CL) : DataW Unit := .map (L.map ent)
theorem same_int (a b : Int) : (Lit.int .i64 a).sameKey (.int .i64 b) = decide (a = b) := by simp [Lit.sameKey]
theorem before_int (a b : Int) : (Lit.int .i64 a).before (.int .i64 b) = decide (a < b) := rfl
theorem find_ent (L : CL) (id : Int) : (L.map ent).find? (fun p => p.1.sameKey (.int .i64 id)) = (L.find? fun p => decide (p.1 = id)).map ent := by
  have e : ((fun p : Lit × DataW Unit => p.1.sameKey (.int .i64 id)) ∘ ent) = fun p => decide (p.1 = id) := funext fun p => same_int _ _
  rw [List.find?_map, e]
theorem atKey_mapD (L : CL) (id : Int) : (mapD L).atKey (.int .i64 id) (.lit (.int .i64 0)) = .lit (.int .i64 (cnt L id)) := by
  unfold mapD DataW.atKey
  simp only [find_ent]
  induction L with
  | nil => rfl
  | cons p r ih =>
    unfold cnt
    by_cases e : p.1 = id
    · simp [e, ent]
    · simp only [List.find?_cons, e, decide_false, if_false]
      exact ih
theorem atKey_some {L : CL} {id c : Int} (h : ∀ zd, (mapD L).atKey (.int .i64 id) zd = .lit (.int .i64 c)) : (id, c) ∈ L := by
  have h1 := h .nil
  unfold mapD DataW.atKey at h1
  simp only [find_ent] at h1
  cases hf : L.find? fun p => decide (p.1 = id) with
  | none => rw [hf] at h1; simp at h1
  | some p =>
    rw [hf] at h1
    simp [ent] at h1
    have h2 := List.find?_some hf
    simp at h2
    have h3 := List.mem_of_find?_eq_some hf
    obtain ⟨a, b⟩ := p
    simp only at h1 h2
    subst h1 h2
    exact h3
theorem has_mapD (L : CL) (id : Int) : has (mapD L) (.int .i64 id) = L.any fun p => decide (p.1 = id) := by
  have e : ((fun p : Lit × DataW Unit => p.1.sameKey (.int .i64 id)) ∘ ent) = fun p => decide (p.1 = id) := funext fun p => same_int _ _
  show (L.map ent).any (fun p => p.1.sameKey (.int .i64 id)) = _
  rw [List.any_map, e]
theorem size_mapD (L : CL) : size (mapD L) = L.length := by simp [mapD, size]
theorem put_mapD {L : CL} (hA : Asc L) (id c : Int) : (mapD L).put (.int .i64 id) (.lit (.int .i64 c)) = mapD (putL id c L) := by
  unfold mapD DataW.put
  simp only
  congr 1
  induction L with
  | nil => rfl
  | cons p r ih =>
    have h1 := asc_head hA
    have keep : ∀ (l : CL), (∀ q ∈ l, q.1 ≠ id) → (l.map ent).filter (fun p => !p.1.sameKey (.int .i64 id)) = l.map ent := fun l hl => by
      rw [List.filter_eq_self]
      intro x hx
      obtain ⟨q, hq, rfl⟩ := List.mem_map.1 hx
      simp [ent, same_int, hl q hq]
    unfold putL
    by_cases g1 : id < p.1
    · rw [if_pos g1, keep (p :: r) (fun q hq => by
        rcases List.mem_cons.1 hq with rfl | hq
        · omega
        · have := h1 q hq; omega)]
      simp [DataW.insert, ent, before_int, g1]
    · rw [if_neg g1]
      by_cases g2 : p.1 = id
      · rw [if_pos g2, List.map_cons, List.filter_cons_of_neg (by simp [ent, same_int, g2]), keep r (fun q hq => by have := h1 q hq; omega)]
        cases r with
        | nil => rfl
        | cons q r' =>
          have := h1 q (List.mem_cons_self ..)
          simp only [List.map_cons, DataW.insert, ent, before_int]
          have g3 : decide (id < q.1) = true := decide_eq_true (by omega)
          exact if_pos g3
      · rw [if_neg g2, List.map_cons, List.filter_cons_of_pos (by simp [ent, same_int, g2])]
        simp only [DataW.insert]
        rw [if_neg (by simp [ent, before_int]; omega), ih (asc_tail hA)]
        rfl

theorem KI : Keyed Try.prog 3 := int_keyed Try.underlying3
/-- a whole number of 64 bits -/
def InI (n : Int) : Prop := -9223372036854775808 ≤ n ∧ n ≤ 9223372036854775807
theorem InI.wf {n : Int} (h : InI n) : (Lit.int .i64 n).wf = true := Go.WalkArith.wf_i64 h
theorem zero_int (w : World) : (zeroValue 3).run Try.prog w = .ok (.int .i64 0) w := by kernel_rfl

/-- at block b lies a map that holds these counters -/
structure MapAt (w : World) (b : Nat) (L : CL) : Prop where
  asc : Asc L
  inI : ∀ p ∈ L, InI p.1 ∧ InI p.2
  own : w.ownsMap Try.prog 3 (plainElem Try.prog 3) b L.length (mapD L)

theorem own_tight {w : World} {b n : Nat} {L : CL} (h : w.ownsMap Try.prog 3 (plainElem Try.prog 3) b n (mapD L)) : w.ownsMap Try.prog 3 (plainElem Try.prog 3) b L.length (mapD L) := by
  obtain ⟨es, clock, hb, F, _, hD⟩ := h
  refine ⟨es, clock, hb, F, ?_, hD⟩
  have e := congrArg size hD
  rw [size_mapD, size_eq, length_sorted] at e
  simp at e
  omega
theorem MapAt.of_block {w w' : World} {b : Nat} {L : CL} (h : MapAt w b L) (hb : w'.heap[b]? = w.heap[b]?) : MapAt w' b L := by
  obtain ⟨es, clock, h1, h2⟩ := h.own
  exact ⟨h.asc, h.inI, es, clock, hb.trans h1, h2⟩
theorem MapAt.lt {w : World} {b : Nat} {L : CL} (h : MapAt w b L) : b < w.heap.size := h.own.lt
theorem MapAt.made (w : World) : MapAt (w.alloc (.map #[] 0)) w.heap.size [] := ⟨List.Pairwise.nil, (fun p hp => by cases hp), World.ownsMap_made w _ _ _⟩
theorem MapAt.lookup {w : World} {b : Nat} {L : CL} (h : MapAt w b L) {id : Int} (hid : InI id) :
    (Instr.lookup 55 (.map (some b)) (.int .i64 id) false).run Try.prog w = .ok (.int .i64 (cnt L id)) w := by
  obtain ⟨c, h1, h2, _⟩ := h.own.lookup_int KI Try.underlying55 Try.underlying3 (zero_int w) (keyOf_int_mk Try.underlying3 hid.wf)
  rw [atKey_mapD] at h2
  simp at h2
  rw [h1, h2]
theorem MapAt.len {w : World} {b : Nat} {L : CL} (h : MapAt w b L) (ty : TypeId) : (Builtin.len_ #[55] ty #[.map (some b)]).run Try.prog w = .ok (.int .i64 L.length) w := by
  have := h.own.len Try.underlying55 ty
  rwa [size_mapD] at this
theorem MapAt.update {w : World} {b : Nat} {L : CL} (h : MapAt w b L) {id c : Int} (hid : InI id) (hc : InI c) (hl : L.length < maxLen) :
    ∃ w', (Instr.mapUpdate 55 (.map (some b)) (.int .i64 id) (.int .i64 c)).run Try.prog w = .ok () w' ∧ MapAt w' b (putL id c L) ∧ w.grownBy w' (some b) := by
  obtain ⟨w', h1, h2, h3⟩ := h.own.update KI Try.underlying55 hl (keyOf_int_mk Try.underlying3 hid.wf) (plainElem_int Try.underlying3 hc.wf)
  rw [put_mapD h.asc] at h2
  refine ⟨w', h1, ⟨asc_putL h.asc id c, fun p hp => ?_, own_tight h2⟩, h3⟩
  rcases putL_sub hp with rfl | hp
  · exact ⟨hid, hc⟩
  · exact h.inI p hp
end Go.Proofs.Ytkmonecolkamjaa
