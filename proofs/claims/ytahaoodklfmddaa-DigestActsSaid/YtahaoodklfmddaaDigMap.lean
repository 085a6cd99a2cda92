/- Counts by place as a list by code (level * 2^64 + prefix): plain mathematics of the digest's map, and that map in memory. Conditions: none. -/
import Derived.Test.YtahaoodklfmddaaDigPlace
import Derived.WideKeyEntry
set_option maxRecDepth 100000
namespace Go.Proofs.Ytahaoodklfmddaa
open Go.RowKit Go.Maps Go.Sort

/-! the code of a place -/
def pk (c : Nat) : PL := (c / 18446744073709551616, c % 18446744073709551616)
def KIn (c : Nat) : Prop := c < 1199038364791120855040
theorem KIn.pl {c : Nat} (h : KIn c) : (pk c).In := by
  unfold KIn at h
  unfold pk PL.In
  omega
theorem pk_lt (a b : Nat) : (pk a).lt (pk b) ↔ a < b := by
  unfold pk PL.lt
  omega
theorem pk_inj {a b : Nat} (h : pk a = pk b) : a = b := by
  unfold pk at h
  have h1 := congrArg Prod.fst h
  have h2 := congrArg Prod.snd h
  simp only at h1 h2
  omega
def kL (c : Nat) : Lit := plL (pk c)
def kV (c : Nat) : Value := plV (pk c)
theorem kV_key {c : Nat} (h : KIn c) : keyOf Try.prog 67 (kV c) = some (kL c) := plV_key h.pl
theorem kL_before {a b : Nat} (ha : KIn a) (hb : KIn b) : (kL a).before (kL b) = decide (a < b) := by
  unfold kL
  rw [plL_before ha.pl hb.pl]
  exact decide_eq_decide.2 (pk_lt a b)
theorem kL_inj {a b : Nat} (ha : KIn a) (hb : KIn b) (h : kL a = kL b) : a = b := pk_inj (plL_inj ha.pl hb.pl h)
theorem kL_same {a b : Nat} (ha : KIn a) (hb : KIn b) : (kL a).sameKey (kL b) = decide (a = b) := by
  have e : ∀ x y : List UInt8, (Lit.string x).sameKey (Lit.string y) = decide (x = y) := fun x y => by
    show (x == y) = _
    rw [Bool.eq_iff_iff]
    simp
  show (Lit.string (plB (pk a))).sameKey (Lit.string (plB (pk b))) = _
  rw [e]
  exact decide_eq_decide.2 ⟨fun h => kL_inj ha hb (congrArg Lit.string h), fun h => by rw [h]⟩

abbrev DL := List (Nat × Int)
/-- codes of places rise -/
def DAsc (L : DL) : Prop := L.Pairwise fun p q => p.1 < q.1
/-- how often a place came -/
def dcnt : DL → Nat → Int
  | [], _ => 0
  | p :: r, id => if p.1 = id then p.2 else dcnt r id
/-- a place's count anew -/
def putD (id : Nat) (c : Int) : DL → DL
  | [] => [(id, c)]
  | p :: r => if id < p.1 then (id, c) :: p :: r else if p.1 = id then (id, c) :: r else p :: putD id c r

theorem dasc_tail {p : Nat × Int} {r : DL} (h : DAsc (p :: r)) : DAsc r := (List.pairwise_cons.1 h).2
theorem dasc_head {p : Nat × Int} {r : DL} (h : DAsc (p :: r)) : ∀ q ∈ r, p.1 < q.1 := (List.pairwise_cons.1 h).1
theorem dcnt_none {L : DL} {id : Nat} (h : ∀ p ∈ L, p.1 ≠ id) : dcnt L id = 0 := by
  induction L with
  | nil => rfl
  | cons p r ih =>
    unfold dcnt
    rw [if_neg (h p (List.mem_cons_self ..))]
    exact ih fun q hq => h q (List.mem_cons_of_mem _ hq)
theorem dcnt_mem {L : DL} (hA : DAsc L) {id : Nat} {c : Int} (h : (id, c) ∈ L) : dcnt L id = c := by
  induction L with
  | nil => cases h
  | cons p r ih =>
    unfold dcnt
    rcases List.mem_cons.1 h with rfl | h
    · rw [if_pos rfl]
    · rw [if_neg (by have := dasc_head hA _ h; simp only at this; omega)]
      exact ih (dasc_tail hA) h
theorem mem_of_dcnt {L : DL} {id : Nat} (h : dcnt L id ≠ 0) : (id, dcnt L id) ∈ L := by
  induction L with
  | nil => exact absurd rfl h
  | cons p r ih =>
    unfold dcnt at h ⊢
    by_cases e : p.1 = id
    · rw [if_pos e] at h ⊢
      obtain ⟨a, b⟩ := p
      simp only at e
      subst e
      exact List.mem_cons_self ..
    · rw [if_neg e] at h ⊢
      exact List.mem_cons_of_mem _ (ih h)
theorem putD_mem {L : DL} {id : Nat} {c : Int} {p : Nat × Int} (h : p ∈ putD id c L) : p = (id, c) ∨ (p ∈ L ∧ p.1 ≠ id) ∨ (p ∈ L ∧ p.1 = id ∧ False) ∨ p ∈ L := by
  induction L with
  | nil => simp [putD] at h; exact .inl h
  | cons q r ih =>
    unfold putD at h
    split at h
    · rcases List.mem_cons.1 h with rfl | h
      · exact .inl rfl
      · exact .inr (.inr (.inr h))
    · split at h
      · rcases List.mem_cons.1 h with rfl | h
        · exact .inl rfl
        · exact .inr (.inr (.inr (List.mem_cons_of_mem _ h)))
      · rcases List.mem_cons.1 h with rfl | h
        · exact .inr (.inr (.inr (List.mem_cons_self ..)))
        · rcases ih h with e | e | e | e
          · exact .inl e
          · exact .inr (.inr (.inr (List.mem_cons_of_mem _ e.1)))
          · exact e.2.2.elim
          · exact .inr (.inr (.inr (List.mem_cons_of_mem _ e)))
theorem putD_sub {L : DL} {id : Nat} {c : Int} {p : Nat × Int} (h : p ∈ putD id c L) : p = (id, c) ∨ p ∈ L := by
  rcases putD_mem h with e | e | e | e
  · exact .inl e
  · exact .inr e.1
  · exact .inr e.1
  · exact .inr e
theorem dasc_putD {L : DL} (hA : DAsc L) (id : Nat) (c : Int) : DAsc (putD id c L) := by
  induction L with
  | nil => exact List.pairwise_singleton _ _
  | cons q r ih =>
    have h1 := dasc_head hA
    have h2 := dasc_tail hA
    unfold putD
    split
    · rename_i g
      refine List.pairwise_cons.2 ⟨fun x hx => ?_, hA⟩
      rcases List.mem_cons.1 hx with rfl | hx
      · exact g
      · exact Nat.lt_trans g (h1 x hx)
    · split
      · rename_i g
        refine List.pairwise_cons.2 ⟨fun x hx => ?_, h2⟩
        rw [← g]; exact h1 x hx
      · rename_i g1 g2
        refine List.pairwise_cons.2 ⟨fun x hx => ?_, ih h2⟩
        rcases putD_sub hx with rfl | hx
        · show q.1 < id; omega
        · exact h1 x hx
theorem putD_len (L : DL) (id : Nat) (c : Int) : (putD id c L).length ≤ L.length + 1 := by
  induction L with
  | nil => exact Nat.le_refl _
  | cons q r ih =>
    unfold putD
    split
    · simp
    · split
      · simp
      · simp; omega
theorem putD_len_mem {L : DL} (hA : DAsc L) {id : Nat} {c : Int} (h : ∃ p ∈ L, p.1 = id) : (putD id c L).length = L.length := by
  induction L with
  | nil => obtain ⟨p, hp, _⟩ := h; cases hp
  | cons q r ih =>
    obtain ⟨p, hp, e⟩ := h
    unfold putD
    rcases List.mem_cons.1 hp with rfl | hp
    · rw [if_neg (by omega), if_pos e]; simp
    · have := dasc_head hA p hp
      rw [if_neg (by omega), if_neg (by omega)]
      simp [ih (dasc_tail hA) ⟨p, hp, e⟩]
theorem putD_at {A B : DL} {id : Nat} {c0 c : Int} (h : DAsc (A ++ (id, c0) :: B)) : putD id c (A ++ (id, c0) :: B) = A ++ (id, c) :: B := by
  induction A with
  | nil =>
    show putD id c ((id, c0) :: B) = _
    unfold putD
    rw [if_neg (by simp), if_pos rfl]; rfl
  | cons q r ih =>
    have h1 := dasc_head h (id, c0) (by simp)
    show putD id c (q :: (r ++ (id, c0) :: B)) = _
    unfold putD
    simp only at h1
    rw [if_neg (by omega), if_neg (by omega), ih (dasc_tail h)]; rfl
theorem dcnt_putD {L : DL} (hA : DAsc L) (id : Nat) (c : Int) (x : Nat) : dcnt (putD id c L) x = if x = id then c else dcnt L x := by
  induction L with
  | nil => simp [putD, dcnt, eq_comm]
  | cons q r ih =>
    unfold putD
    split
    · rename_i g
      show (if id = x then c else dcnt (q :: r) x) = _
      by_cases e : x = id
      · rw [if_pos e, if_pos e.symm]
      · rw [if_neg e, if_neg (fun h => e h.symm)]
    · split
      · rename_i g1 g2
        show (if id = x then c else dcnt r x) = _
        by_cases e : x = id
        · rw [if_pos e, if_pos e.symm]
        · rw [if_neg e, if_neg (fun h => e h.symm)]
          show _ = if q.1 = x then q.2 else dcnt r x
          rw [if_neg (by omega)]
      · rename_i g1 g2
        show (if q.1 = x then q.2 else dcnt (putD id c r) x) = if x = id then c else if q.1 = x then q.2 else dcnt r x
        rw [ih (dasc_tail hA)]
        by_cases e : q.1 = x
        · rw [if_pos e, if_pos e, if_neg (by omega)]
        · rw [if_neg e, if_neg e]

/-- taken out -/
def delD (id : Nat) (L : DL) : DL := L.filter fun p => !decide (p.1 = id)
theorem dasc_delD {L : DL} (hA : DAsc L) (id : Nat) : DAsc (delD id L) := hA.filter _
theorem delD_sub {L : DL} {id : Nat} {p : Nat × Int} (h : p ∈ delD id L) : p ∈ L := (List.mem_filter.1 h).1
theorem delD_ne {L : DL} {id : Nat} {p : Nat × Int} (h : p ∈ delD id L) : p.1 ≠ id := by
  have := (List.mem_filter.1 h).2
  simpa using this
theorem dcnt_delD {L : DL} (hA : DAsc L) (id x : Nat) : dcnt (delD id L) x = if x = id then 0 else dcnt L x := by
  by_cases e : x = id
  · rw [if_pos e]
    exact dcnt_none fun p hp => by rw [e]; exact delD_ne hp
  · rw [if_neg e]
    induction L with
    | nil => rfl
    | cons p r ih =>
      have ih := ih (dasc_tail hA)
      unfold delD at ih ⊢
      by_cases g : p.1 = id
      · rw [List.filter_cons_of_neg (by simp [g]), ih]
        show _ = if p.1 = x then p.2 else dcnt r x
        rw [if_neg (by omega)]
      · rw [List.filter_cons_of_pos (by simp [g])]
        show (if p.1 = x then p.2 else dcnt (r.filter _) x) = if p.1 = x then p.2 else dcnt r x
        rw [ih]

/-- the datum that a map by places reads as -/
def dent (p : Nat × Int) : Lit × DataW Unit := (kL p.1, .lit (.int .i64 p.2))
def mapP (L : DL) : DataW Unit := .map (L.map dent)
abbrev AllIn (L : DL) : Prop := ∀ p ∈ L, KIn p.1
theorem AllIn.tail {p : Nat × Int} {r : DL} (h : AllIn (p :: r)) : AllIn r := fun q hq => h q (List.mem_cons_of_mem _ hq)
theorem AllIn.head {p : Nat × Int} {r : DL} (h : AllIn (p :: r)) : KIn p.1 := h p (List.mem_cons_self ..)
theorem find_dent {L : DL} (hL : AllIn L) {id : Nat} (hid : KIn id) : (L.map dent).find? (fun p => p.1.sameKey (kL id)) = (L.find? fun p => decide (p.1 = id)).map dent := by
  induction L with
  | nil => rfl
  | cons p r ih =>
    have e : (dent p).1.sameKey (kL id) = decide (p.1 = id) := kL_same hL.head hid
    simp only [List.map_cons, List.find?_cons, e]
    by_cases g : p.1 = id
    · simp [g]
    · simp only [g, decide_false]
      exact ih hL.tail
theorem atKey_mapP {L : DL} (hL : AllIn L) {id : Nat} (hid : KIn id) : (mapP L).atKey (kL id) (.lit (.int .i64 0)) = .lit (.int .i64 (dcnt L id)) := by
  unfold mapP DataW.atKey
  simp only [find_dent hL hid]
  clear hL
  induction L with
  | nil => rfl
  | cons p r ih =>
    unfold dcnt
    by_cases e : p.1 = id
    · simp [e, dent]
    · simp only [List.find?_cons, e, decide_false, if_false]
      exact ih
theorem size_mapP (L : DL) : size (mapP L) = L.length := by simp [mapP, size]
theorem put_mapP {L : DL} (hA : DAsc L) (hL : AllIn L) {id : Nat} (hid : KIn id) (c : Int) : (mapP L).put (kL id) (.lit (.int .i64 c)) = mapP (putD id c L) := by
  unfold mapP DataW.put
  simp only
  congr 1
  induction L with
  | nil => rfl
  | cons p r ih =>
    have h1 := dasc_head hA
    have hp := hL.head
    have keep : ∀ (l : DL), AllIn l → (∀ q ∈ l, q.1 ≠ id) → (l.map dent).filter (fun p => !p.1.sameKey (kL id)) = l.map dent := fun l hl' hl => by
      rw [List.filter_eq_self]
      intro x hx
      obtain ⟨q, hq, rfl⟩ := List.mem_map.1 hx
      simp [dent, kL_same (hl' q hq) hid, hl q hq]
    unfold putD
    by_cases g1 : id < p.1
    · rw [if_pos g1, keep (p :: r) hL (fun q hq => by
        rcases List.mem_cons.1 hq with rfl | hq
        · omega
        · have := h1 q hq; omega)]
      simp [DataW.insert, dent, kL_before hid hp, g1]
    · rw [if_neg g1]
      by_cases g2 : p.1 = id
      · rw [if_pos g2, List.map_cons, List.filter_cons_of_neg (by show ¬ (!(kL p.1).sameKey (kL id)) = true; rw [kL_same hp hid, g2]; simp), keep r hL.tail (fun q hq => by have := h1 q hq; omega)]
        cases r with
        | nil => rfl
        | cons q r' =>
          have := h1 q (List.mem_cons_self ..)
          simp only [List.map_cons, DataW.insert, dent, kL_before hid hL.tail.head]
          have g3 : decide (id < q.1) = true := decide_eq_true (by omega)
          exact if_pos g3
      · rw [if_neg g2, List.map_cons, List.filter_cons_of_pos (by simp [dent, kL_same hp hid, g2])]
        simp only [DataW.insert]
        rw [if_neg (by simp [dent, kL_before hid hp]; omega), ih (dasc_tail hA) hL.tail]
        rfl
theorem del_mapP {L : DL} (hL : AllIn L) {id : Nat} (hid : KIn id) : (mapP L).del (kL id) = mapP (delD id L) := by
  unfold mapP DataW.del
  simp only
  congr 1
  induction L with
  | nil => rfl
  | cons p r ih =>
    have e : (dent p).1.sameKey (kL id) = decide (p.1 = id) := kL_same hL.head hid
    unfold delD at ih ⊢
    by_cases g : p.1 = id
    · rw [List.map_cons, List.filter_cons_of_neg (by simp [e, g]), List.filter_cons_of_neg (by simp [g]), ih hL.tail]
    · rw [List.map_cons, List.filter_cons_of_pos (by simp [e, g]), List.filter_cons_of_pos (by simp [g]), ih hL.tail]
      rfl

/-- a whole number of 64 bits -/
def InI (n : Int) : Prop := -9223372036854775808 ≤ n ∧ n ≤ 9223372036854775807
theorem InI.wf {n : Int} (h : InI n) : (Lit.int .i64 n).wf = true := Go.WalkArith.wf_i64 h
theorem zero_int (w : World) : (zeroValue 3).run Try.prog w = .ok (.int .i64 0) w := by kernel_rfl

/-- at block b lies a map by places that holds these counts -/
structure PAt (w : World) (b : Nat) (L : DL) : Prop where
  asc : DAsc L
  inI : ∀ p ∈ L, KIn p.1 ∧ InI p.2
  own : w.ownsMap Try.prog 67 (plainElem Try.prog 3) b L.length (mapP L)

theorem PAt.allIn {w : World} {b : Nat} {L : DL} (h : PAt w b L) : AllIn L := fun p hp => (h.inI p hp).1
theorem own_tightP {w : World} {b n : Nat} {L : DL} (h : w.ownsMap Try.prog 67 (plainElem Try.prog 3) b n (mapP L)) : w.ownsMap Try.prog 67 (plainElem Try.prog 3) b L.length (mapP L) := by
  obtain ⟨es, clock, hb, F, _, hD⟩ := h
  refine ⟨es, clock, hb, F, ?_, hD⟩
  have e := congrArg size hD
  rw [size_mapP, size_eq, length_sorted] at e
  simp at e
  omega
theorem PAt.of_block {w w' : World} {b : Nat} {L : DL} (h : PAt w b L) (hb : w'.heap[b]? = w.heap[b]?) : PAt w' b L := by
  obtain ⟨es, clock, h1, h2⟩ := h.own
  exact ⟨h.asc, h.inI, es, clock, hb.trans h1, h2⟩
theorem PAt.lt {w : World} {b : Nat} {L : DL} (h : PAt w b L) : b < w.heap.size := h.own.lt
theorem PAt.made (w : World) : PAt (w.alloc (.map #[] 0)) w.heap.size [] := ⟨List.Pairwise.nil, (fun p hp => by cases hp), World.ownsMap_made w _ _ _⟩
theorem dcnt_inI {L : DL} (h : ∀ p ∈ L, KIn p.1 ∧ InI p.2) (id : Nat) : InI (dcnt L id) := by
  by_cases e : dcnt L id = 0
  · rw [e]; unfold InI; omega
  · exact (h _ (mem_of_dcnt e)).2
theorem PAt.lookup {w : World} {b : Nat} {L : DL} (h : PAt w b L) {id : Nat} (hid : KIn id) :
    (Instr.lookup 60 (.map (some b)) (kV id) false).run Try.prog w = .ok (.int .i64 (dcnt L id)) w := by
  obtain ⟨c, h1, h2, _⟩ := h.own.lookup_int KP Try.underlying60 Try.underlying3 (zero_int w) (kV_key hid)
  rw [atKey_mapP h.allIn hid] at h2
  simp at h2
  rw [h1, h2]
theorem PAt.len {w : World} {b : Nat} {L : DL} (h : PAt w b L) (ty : TypeId) : (Builtin.len_ #[60] ty #[.map (some b)]).run Try.prog w = .ok (.int .i64 L.length) w := by
  have := h.own.len Try.underlying60 ty
  rwa [size_mapP] at this
theorem PAt.put {w w' : World} {b n : Nat} {L : DL} (h : PAt w b L) {id : Nat} {c : Int} (hid : KIn id) (hc : InI c)
    (h2 : w'.ownsMap Try.prog 67 (plainElem Try.prog 3) b n ((mapP L).put (kL id) (.lit (.int .i64 c)))) : PAt w' b (putD id c L) := by
  rw [put_mapP h.asc h.allIn hid] at h2
  refine ⟨dasc_putD h.asc id c, fun p hp => ?_, own_tightP h2⟩
  rcases putD_sub hp with rfl | hp
  · exact ⟨hid, hc⟩
  · exact h.inI p hp
theorem PAt.update {w : World} {b : Nat} {L : DL} (h : PAt w b L) {id : Nat} {c : Int} (hid : KIn id) (hc : InI c) (hl : L.length < maxLen) :
    ∃ w', (Instr.mapUpdate 60 (.map (some b)) (kV id) (.int .i64 c)).run Try.prog w = .ok () w' ∧ PAt w' b (putD id c L) ∧ w.mapTurned w' b := by
  obtain ⟨w', h1, h2, h3⟩ := h.own.store KP Try.underlying60 hl (kV_key hid) (plainElem_int Try.underlying3 hc.wf)
  exact ⟨w', h1, h.put hid hc h2, h3⟩
theorem PAt.drop {w : World} {b : Nat} {L : DL} (h : PAt w b L) {id : Nat} (hid : KIn id) (ty : TypeId) :
    ∃ w', (Builtin.delete_ #[60, 67] ty #[.map (some b), kV id]).run Try.prog w = .ok (.tuple #[]) w' ∧ PAt w' b (delD id L) ∧ w.mapTurned w' b := by
  obtain ⟨w', h1, h2, h3⟩ := h.own.drop KP Try.underlying60 (kV_key hid) ty
  rw [del_mapP h.allIn hid] at h2
  exact ⟨w', h1, ⟨dasc_delD h.asc id, fun p hp => h.inI p (delD_sub hp), own_tightP h2⟩, h3⟩
end Go.Proofs.Ytahaoodklfmddaa
