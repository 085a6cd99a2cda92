/- The texts VbPlain OpenStructs VbRow DictMap, one behind the other; each one's own comment says what it holds. -/
import Derived.Test.YtlhpbfjelgmkeaaGreatCellCopiesRowGB
import Derived.Test.YtlhpbfjelgmkeaaGreatGen
import Derived.ProofKit
import Derived.OpenShut
import Derived.ChangeOld
import Derived.Deep.Slices
import Derived.Deep.Fields
import Derived.ChangeSame
import Derived.Lib.SmallJoins
import Derived.Test.YtlhpbfjelgmkeaaGreatThings
import Derived.DeepKeys4
import Derived.ChangeKeys
import Derived.Maps.OwnSet
/- Plain mathematics of values in bytes: what bytes tell, and what is read of them. Conditions: none. -/
set_option maxRecDepth 100000
namespace Go.Proofs.YtlhpbfjelgmkeaaGreat
open Go.RowKit Go.Lib

/-- a value of a row -/
structure VV where
  k : Int
  n : Int
  s : ByteArray
def VV.none_ : VV := ⟨0, 0, ⟨#[]⟩⟩
def VV.good (x : VV) : Bool := goodV x.k x.n x.s
def VV.norm (x : VV) : VV := if x.good then x else VV.none_
/-- the number that a value has in bytes -/
def zgN (n : Int) : Nat := (zigN n).toNat
/-- those behind its kind's -/
def VV.body (x : VV) : List UInt8 := if x.k = 1 ∨ x.k = 2 ∨ x.k = 4 then dig (zgN x.n) else if x.k = 3 then dig x.s.size ++ x.s.data.toList else []
def VV.bytes (x : VV) : List UInt8 := dig x.k.toNat ++ x.body
def flatV (l : List VV) : List UInt8 := (l.map fun x => x.norm.bytes).flatten
def bytesV (l : List VV) : List UInt8 := dig l.length ++ flatV l

theorem goodV_kind {k n : Int} {s : ByteArray} (h : goodV k n s = true) : 0 ≤ k ∧ k ≤ 4 := by
  unfold goodV at h
  split at h
  · omega
  · split at h
    · omega
    · split at h
      · omega
      · split at h
        · omega
        · split at h
          · omega
          · cases h
theorem str_nil {s : ByteArray} (h : (s.toList == []) = true) : s = ⟨#[]⟩ := by
  have h1 := eq_of_beq h
  rw [Lib.toList_data] at h1
  rcases s with ⟨⟨l⟩⟩
  simp at h1
  subst h1
  rfl
/-- what a good value is -/
theorem good_cases {x : VV} (h : x.good = true) : x = VV.none_ ∨ (x.k = 1 ∧ x.s = ⟨#[]⟩) ∨ (x.k = 2 ∧ x.s = ⟨#[]⟩) ∨ (x.k = 3 ∧ x.n = 0 ∧ x.s.size ≤ 64) ∨ (x.k = 4 ∧ x.s = ⟨#[]⟩) := by
  obtain ⟨k, n, s⟩ := x
  unfold VV.good goodV at h
  simp only at h ⊢
  split at h
  · rename_i hk
    rw [Bool.and_eq_true] at h
    have h1 := eq_of_beq h.1
    have h2 := str_nil h.2
    subst hk h1 h2
    exact .inl rfl
  · split at h
    · rename_i hk; exact .inr (.inl ⟨hk, str_nil h⟩)
    · split at h
      · rename_i hk; rw [Bool.and_eq_true] at h; exact .inr (.inr (.inl ⟨hk, str_nil h.2⟩))
      · split at h
        · rename_i hk; rw [Bool.and_eq_true, decide_eq_true_eq] at h; exact .inr (.inr (.inr (.inl ⟨hk, eq_of_beq h.2, h.1⟩)))
        · split at h
          · rename_i hk; rw [Bool.and_eq_true] at h; exact .inr (.inr (.inr (.inr ⟨hk, str_nil h.2⟩)))
          · cases h
theorem none_good : VV.none_.good = true := by
  unfold VV.good VV.none_ goodV
  simp [Lib.toList_data]
theorem norm_good (x : VV) : x.norm.good = true := by
  unfold VV.norm
  split
  · assumption
  · exact none_good
theorem norm_of {x : VV} (h : x.good = true) : x.norm = x := by unfold VV.norm; rw [if_pos h]
theorem norm_norm (x : VV) : x.norm.norm = x.norm := norm_of (norm_good x)
theorem bytesV_norm (l : List VV) : bytesV (l.map VV.norm) = bytesV l := by
  unfold bytesV flatV
  rw [List.length_map, List.map_map]
  congr 3
  funext x
  simp [norm_norm]
theorem zig_zag (n : Int) (h0 : -9223372036854775808 ≤ n) (h1 : n < 9223372036854775808) : zagN (zgN n) = n ∧ zgN n < 18446744073709551616 := by
  unfold zgN
  by_cases h : n < 0
  · rw [zig_neg h]
    have e : (-2 * n - 1).toNat % 2 = 1 := by omega
    rw [zag_odd e]; omega
  · rw [zig_pos h]
    have e : ¬ (2 * n).toNat % 2 = 1 := by omega
    rw [zag_even e]; omega
/-- an int is one of 64 bits -/
def VV.inI (x : VV) : Prop := -9223372036854775808 ≤ x.n ∧ x.n < 9223372036854775808

/-- the value that bytes begin with, and how many bytes it has -/
def firstV (l : List UInt8) : VV × Nat :=
  let p := getN l
  let r := l.drop p.2
  let q := getN r
  if p.1 = 1 ∨ p.1 = 2 ∨ p.1 = 4 then (⟨(p.1 : Int), zagN q.1, ⟨#[]⟩⟩, p.2 + q.2)
  else if p.1 = 3 then if l.length - (p.2 + q.2) < q.1 then (VV.none_, 0) else (⟨3, 0, ⟨((r.drop q.2).take q.1).toArray⟩⟩, p.2 + q.2 + q.1)
  else (⟨IntKind.i64.wrap (p.1 : Int), 0, ⟨#[]⟩⟩, p.2)
/-- the values that bytes tell, as many as there are, at most so many -/
def readL : Nat → List UInt8 → List VV
  | 0, _ => []
  | c + 1, l => if (firstV l).2 = 0 then [] else (firstV l).1 :: readL c (l.drop (firstV l).2)
def readV (b : List UInt8) : List VV := readL (getN b).1 (b.drop (getN b).2)

theorem get_app (u : Nat) (hu : u < 18446744073709551616) (r : List UInt8) : getN (dig u ++ r) = (u, (dig u).length) := get_dig0 r hu
theorem drop_app (u : Nat) (r : List UInt8) : (dig u ++ r).drop (dig u).length = r := List.drop_left
theorem wrap_small {n : Nat} (h : n ≤ 4) : IntKind.i64.wrap (n : Int) = (n : Int) := by rw [IntKind.wrap_i64]; omega

theorem first_good {x : VV} (h : x.good = true) (hi : x.inI) (r : List UInt8) : firstV (x.bytes ++ r) = (x, x.bytes.length) := by
  have hk := goodV_kind h
  have num : ∀ k : Nat, (k = 1 ∨ k = 2 ∨ k = 4) → x.k = (k : Int) → x.s = ⟨#[]⟩ → firstV (x.bytes ++ r) = (x, x.bytes.length) := fun k hk e es => by
    have eb : x.bytes = dig k ++ dig (zgN x.n) := by
      unfold VV.bytes VV.body
      rw [if_pos (by omega), e]
      rfl
    obtain ⟨z1, z2⟩ := zig_zag x.n hi.1 hi.2
    unfold firstV
    rw [eb, List.append_assoc, get_app k (by omega)]
    dsimp only
    rw [drop_app, get_app _ z2]
    dsimp only
    rw [if_pos hk, z1, ← e, ← es, List.length_append]
  rcases good_cases h with rfl | ⟨e, es⟩ | ⟨e, es⟩ | ⟨e, en, es⟩ | ⟨e, es⟩
  · have eb : VV.none_.bytes = dig 0 := by unfold VV.bytes VV.body VV.none_; simp
    unfold firstV
    rw [eb, get_app 0 (by omega)]
    simp only
    rw [if_neg (by omega), if_neg (by omega)]
    rfl
  · exact num 1 (by omega) e es
  · exact num 2 (by omega) e es
  · have eb : x.bytes = dig 3 ++ (dig x.s.size ++ x.s.data.toList) := by
      unfold VV.bytes VV.body
      rw [if_neg (by omega), if_pos e, e]
      rfl
    have hl : x.s.data.toList.length = x.s.size := (Lib.size_eq x.s).symm
    have ht : (x.s.data.toList ++ r).take x.s.size = x.s.data.toList := by
      rw [← hl]; exact List.take_left
    unfold firstV
    rw [eb, List.append_assoc, get_app 3 (by omega)]
    dsimp only
    rw [drop_app, List.append_assoc, get_app _ (by omega)]
    dsimp only
    rw [drop_app]
    rw [if_neg (by omega), if_pos rfl, if_neg (by simp only [List.length_append]; omega), ht]
    refine Prod.ext ?_ ?_
    · obtain ⟨k, n, s⟩ := x
      simp only at e en
      subst e en
      rfl
    · simp only [List.length_append]; omega
  · exact num 4 (by omega) e es
theorem bytes_pos (x : VV) : 0 < x.bytes.length := by
  unfold VV.bytes
  rw [List.length_append]
  have := dig_pos x.k.toNat
  omega
theorem flatV_cons (x : VV) (l : List VV) : flatV (x :: l) = x.norm.bytes ++ flatV l := by simp [flatV]
theorem readL_good : ∀ ws : List VV, (∀ x ∈ ws, x.good = true ∧ x.inI) → ∀ r, readL ws.length (flatV ws ++ r) = ws
  | [], _, r => rfl
  | x :: l, h, r => by
    have hx := h x (List.mem_cons_self ..)
    rw [flatV_cons, norm_of hx.1, List.append_assoc, List.length_cons]
    have hf := first_good hx.1 hx.2 (flatV l ++ r)
    have hp := bytes_pos x
    unfold readL
    rw [hf]
    simp only
    rw [if_neg (by omega), List.drop_left, readL_good l (fun y hy => h y (List.mem_cons_of_mem _ hy)) r]
theorem readV_good {ws : List VV} (h : ∀ x ∈ ws, x.good = true ∧ x.inI) (hl : ws.length < 18446744073709551616) : readV (bytesV ws) = ws := by
  have := readL_good ws h []
  rw [List.append_nil] at this
  unfold readV bytesV
  rw [get_app _ hl, drop_app]
  exact this
/-- what Load answers -/
def loadV (b : List UInt8) : Option (List VV) := if bytesV (readV b) = b then some (readV b) else none
theorem inI_none : VV.none_.inI := ⟨by decide, by decide⟩
theorem inI_norm {x : VV} (h : x.inI) : x.norm.inI := by
  unfold VV.norm
  split
  · exact h
  · exact inI_none
theorem zag_inI (u : Nat) (h : u < 18446744073709551616) : -9223372036854775808 ≤ zagN u ∧ zagN u < 9223372036854775808 := by
  by_cases hu : u % 2 = 1
  · rw [zag_odd hu]; omega
  · rw [zag_even hu]; omega
theorem getAt_le : ∀ (l : List UInt8) (i U : Nat), i ≤ 10 → U < 2 ^ (7 * i) → (getAt l i U).2 ≤ i + l.length ∧ (getAt l i U).1 < 18446744073709551616 := by
  intro l
  induction l with
  | nil => intro i U _ _; rw [get_nil]; simp
  | cons c r ih =>
    intro i U hi hU
    by_cases h10 : i = 10
    · subst h10; rw [get_ten]; simp
    have hi2 : i < 10 := by omega
    by_cases h9 : i = 9 ∧ 1 < c.toNat
    · obtain ⟨rfl, h9⟩ := h9
      rw [get_bad _ _ _ h9]; simp
    by_cases h0 : 0 < i ∧ c.toNat = 0
    · rw [get_zero _ _ _ _ h0.1 hi2 h0.2]; simp
    have hb : U + (c.toNat % 128) * 2 ^ (7 * i) < 2 ^ (7 * (i + 1)) := by
      have e : 2 ^ (7 * (i + 1)) = 128 * 2 ^ (7 * i) := by rw [show 7 * (i + 1) = 7 + 7 * i by omega, Nat.pow_add]
      have hm : c.toNat % 128 ≤ 127 := by omega
      have := Nat.mul_le_mul_right (2 ^ (7 * i)) hm
      rw [e]
      have : 128 * 2 ^ (7 * i) = 127 * 2 ^ (7 * i) + 2 ^ (7 * i) := Nat.succ_mul 127 _
      omega
    by_cases h1 : c.toNat < 128
    · rw [get_last _ _ _ _ hi2 h0 h9 h1]
      rw [Nat.mod_eq_of_lt h1] at hb
      refine ⟨by simp only [List.length_cons]; omega, ?_⟩
      simp only
      by_cases hi9 : i = 9
      · subst hi9
        have hc : c.toNat ≤ 1 := by omega
        have := Nat.mul_le_mul_right (2 ^ (7 * 9)) hc
        have e : (2 : Nat) ^ (7 * 9) = 9223372036854775808 := by decide
        rw [e] at this hU ⊢
        omega
      · have : 2 ^ (7 * (i + 1)) ≤ 2 ^ 63 := Nat.pow_le_pow_right (by omega) (by omega)
        have e : (2 : Nat) ^ 63 = 9223372036854775808 := by decide
        omega
    · rw [get_more _ _ _ _ hi2 h1]
      have hc := c.toNat_lt
      have e2 : c.toNat - 128 = c.toNat % 128 := by omega
      rw [e2]
      have := ih (i + 1) _ (by omega) hb
      simp only [List.length_cons]
      omega
theorem getN_bound (l : List UInt8) : (getN l).2 ≤ l.length ∧ (getN l).1 < 18446744073709551616 := by
  have := getAt_le l 0 0 (by omega) (by decide)
  rw [Nat.zero_add] at this
  exact this
theorem first_le (l : List UInt8) : (firstV l).2 ≤ l.length := by
  have h1 := (getN_bound l).1
  have h2 := (getN_bound (l.drop (getN l).2)).1
  rw [List.length_drop] at h2
  unfold firstV
  simp only
  split
  · simp only; omega
  · split
    · split
      · simp
      · simp only; omega
    · simp only; omega
theorem first_inI (l : List UInt8) : (firstV l).1.inI := by
  have h2 := (getN_bound (l.drop (getN l).2)).2
  unfold firstV
  simp only
  split
  · exact zag_inI _ h2
  · split
    · split
      · exact inI_none
      · exact ⟨by simp, by simp⟩
    · exact ⟨by simp, by simp⟩
theorem readL_inI : ∀ (c : Nat) (l : List UInt8), ∀ x ∈ readL c l, x.inI
  | 0, _, x, h => by simp [readL] at h
  | c + 1, l, x, h => by
    unfold readL at h
    split at h
    · simp at h
    · rcases List.mem_cons.1 h with rfl | h
      · exact first_inI l
      · exact readL_inI c _ x h
theorem readL_len : ∀ (c : Nat) (l : List UInt8), (readL c l).length ≤ l.length ∧ (readL c l).length ≤ c
  | 0, _ => by simp [readL]
  | c + 1, l => by
    unfold readL
    split
    · simp
    · have h1 := readL_len c (l.drop (firstV l).2)
      have h2 := first_le l
      rw [List.length_drop] at h1
      simp only [List.length_cons]
      omega
theorem readV_inI (b : List UInt8) : ∀ x ∈ readV b, x.inI := readL_inI _ _
theorem readV_len (b : List UInt8) : (readV b).length ≤ b.length := by
  have := (readL_len (getN b).1 (b.drop (getN b).2)).1
  rw [List.length_drop] at this
  unfold readV
  omega
/-- Load answers just the good values of which the bytes are -/
theorem load_iff {b : List UInt8} (hb : b.length < 18446744073709551616) {ws : List VV} : loadV b = some ws ↔ (∀ x ∈ ws, x.good = true ∧ x.inI) ∧ ws.length < 18446744073709551616 ∧ b = bytesV ws := by
  constructor
  · intro h
    unfold loadV at h
    split at h
    · rename_i he
      simp at h
      subst h
      have hl := readV_len b
      have hg : ∀ x ∈ (readV b).map VV.norm, x.good = true ∧ x.inI := fun x hx => by
        obtain ⟨y, hy, rfl⟩ := List.mem_map.1 hx
        exact ⟨norm_good y, inI_norm (readV_inI b y hy)⟩
      have h1 := readV_good hg (by rw [List.length_map]; omega)
      rw [bytesV_norm, he] at h1
      refine ⟨fun x hx => ?_, by omega, he.symm⟩
      rw [h1] at hx
      exact hg x hx
    · cases h
  · rintro ⟨h1, h2, rfl⟩
    unfold loadV
    rw [readV_good h1 h2, if_pos rfl]
theorem load_none {b : List UInt8} (hb : b.length < 18446744073709551616) : loadV b = none ↔ ∀ ws : List VV, (∀ x ∈ ws, x.good = true ∧ x.inI) → ws.length < 18446744073709551616 → b ≠ bytesV ws := by
  constructor
  · intro h ws h1 h2 h3
    have := (load_iff hb).2 ⟨h1, h2, h3⟩
    rw [h] at this; cases this
  · intro h
    cases e : loadV b with
    | none => rfl
    | some ws =>
      obtain ⟨h1, h2, h3⟩ := (load_iff hb).1 e
      exact absurd h3 (h ws h1 h2)
end Go.Proofs.YtlhpbfjelgmkeaaGreat
/- A slice of structs that came in: the cells of each element. Conditions: fields of one cell each. -/
set_option maxRecDepth 100000
namespace Go.Proofs.YtlhpbfjelgmkeaaGreat
open Go.ChangeShapes Go.WideShapes Go.ChangeAt Go.RowKit Go.Maps Go.Sort Go.Deep Go.Joins

section
variable {H : Type} {enc : TypeId × Value → H} {P : Program} {w : World} {base : Nat} {spare : Nat → Bool} {held : Bool}
/-- a slice of structs of fields of one cell each: the cells of each element, and how each reads -/
theorem open_structs {t e : TypeId} {fs : Array Field} {fuel : Nat} {cs : List Value} {x : DataW H × List MemPlace} (ht : P.underlying t = some (.slice e)) (he : P.underlying e = some (.struct fs))
    (hone : oneCellFields P fs = true) (hC : P.cellsOf e = fs.size) (h : DataW.trod enc P w base spare held fuel t cs = some x) :
    cs = [.slice none 0 0] ∨
    ∃ (a : Addr) (len cap : Nat), cs = [.slice (some a) len cap] ∧ len ≤ cap ∧ cap ≤ maxLen ∧
      ∀ i, i < len → ∃ n : Nat, ∀ (j : Nat) (f : Field), fs[j]? = some f → ∃ (v : Value) (y : DataW H × List MemPlace), w.cell? (a.add (i * fs.size + j)) = some v ∧ DataW.trod enc P w base spare held n f.type [v] = some y := by
  rcases open_slice ht h with ⟨h0, _⟩ | ⟨a, len, cap, m, n, D, Pl, hcs, _, hl, hmx, hmm, _, hi⟩
  · exact .inl h0
  · refine .inr ⟨a, len, cap, hcs, hl, hmx, fun i hil => ?_⟩
    have him : i < m := by rw [hmm]; split <;> omega
    obtain ⟨cs', hc, ht'⟩ := hi i him
    rw [hC] at hc
    obtain ⟨ys, n', _, _, hlen, hyl, hf⟩ := DataW.trod_struct he ht'
    obtain ⟨_, hcl, hat⟩ := World.cells?_some hc
    refine ⟨n', fun j f hj => ?_⟩
    obtain ⟨ho, hk⟩ := hone_of hone j f hj
    have hjl : j < fs.size := (Array.getElem?_eq_some_iff.1 hj).1
    have hcell := hat j hjl
    have hv : cs'[j]? = some (cs'[j]'(by omega)) := List.getElem?_eq_getElem (by omega)
    have h1 := hf j f hj
    rw [ho, hk] at h1
    have hone' : (cs'.drop j).take 1 = [cs'[j]'(by omega)] := by
      rw [List.drop_eq_getElem_cons (by omega)]
      rfl
    rw [hone'] at h1
    have hys : ys[j]? = some (ys[j]'(by omega)) := List.getElem?_eq_getElem (by omega)
    refine ⟨_, _, ?_, h1.trans hys⟩
    rw [← Go.Deep.add_add, hcell, hv]
end

theorem add_offn (a : Addr) (k j : Nat) (hj : 0 < j) : a.add (k + j) = ⟨(a.add k).block, (a.add k).off + j, none⟩ := by
  unfold Addr.add
  by_cases h1 : k = 0
  · subst h1
    rw [if_neg (by omega), if_pos rfl, Nat.zero_add]
  · rw [if_neg (by omega), if_neg h1]
    simp [Nat.add_assoc]
end Go.Proofs.YtlhpbfjelgmkeaaGreat
/- Rows of values in memory: what they hold, a value more. Conditions: fewer than 2^40 values. -/
set_option maxRecDepth 100000
namespace Go.Proofs.YtlhpbfjelgmkeaaGreat
open Go.RowKit Go.Maps Go.Sort Go.Lib

def encV (x : VV) : List Value := [.int .i64 x.k, .int .i64 x.n, .string x.s]
def flatC (l : List VV) : List Value := l.flatMap encV
theorem flatC_snoc (l : List VV) (x : VV) : flatC (l ++ [x]) = flatC l ++ encV x := by simp [flatC]
theorem flatC_at : ∀ (l : List VV) (i : Nat) (x : VV), l[i]? = some x → (flatC l)[i * 3]? = some (.int .i64 x.k) ∧ (flatC l)[i * 3 + 1]? = some (.int .i64 x.n) ∧ (flatC l)[i * 3 + 2]? = some (.string x.s)
  | [], i, x, h => by simp at h
  | q :: r, 0, x, h => by
    simp at h
    subst h
    simp [flatC, encV]
  | q :: r, i + 1, x, h => by
    have := flatC_at r i x (by simpa using h)
    unfold flatC at this ⊢
    rw [List.flatMap_cons, show (i + 1) * 3 = i * 3 + 3 by omega, show i * 3 + 3 + 1 = (i * 3 + 1) + 3 by omega, show i * 3 + 3 + 2 = (i * 3 + 2) + 3 by omega]
    exact this
/-- a slice holds these values -/
def HoldsV (w : World) (v : Value) (l : List VV) : Prop :=
  ∃ a c, v = .slice a l.length c ∧ l.length ≤ c ∧ ((a = none ∧ l = [] ∧ c = 0) ∨ ∃ ad : Addr, a = some ad ∧ ∀ i x, l[i]? = some x →
    w.cell? (ad.add (i * 3)) = some (.int .i64 x.k) ∧ w.cell? ⟨(ad.add (i * 3)).block, (ad.add (i * 3)).off + 1, none⟩ = some (.int .i64 x.n) ∧ w.cell? ⟨(ad.add (i * 3)).block, (ad.add (i * 3)).off + 2, none⟩ = some (.string x.s))
theorem HoldsV.kept {w w' : World} {v : Value} {l : List VV} (h : HoldsV w v l) (hc : ∀ (a : Addr) u, w.cell? a = some u → w'.cell? a = some u) : HoldsV w' v l := by
  obtain ⟨a, c, h1, h2, h3⟩ := h
  refine ⟨a, c, h1, h2, ?_⟩
  rcases h3 with h3 | ⟨ad, h3, h4⟩
  · exact .inl h3
  · exact .inr ⟨ad, h3, fun i x hx => ⟨hc _ _ (h4 i x hx).1, hc _ _ (h4 i x hx).2.1, hc _ _ (h4 i x hx).2.2⟩⟩
theorem HoldsV.below {w w' : World} {v : Value} {l : List VV} (h : HoldsV w v l) (hb : Below w.heap.size w w') : HoldsV w' v l :=
  h.kept fun a u ha => by rw [hb.cell (World.block_lt_of_cell? w a ha)]; exact ha
theorem HoldsV.form {w : World} {v : Value} {l : List VV} (h : HoldsV w v l) : ∃ a c, v = .slice a l.length c ∧ l.length ≤ c := by
  obtain ⟨a, c, h1, h2, _⟩ := h
  exact ⟨a, c, h1, h2⟩
theorem HoldsV.at_ {w : World} {a : Option Addr} {n c : Nat} {l : List VV} (h : HoldsV w (.slice a n c) l) {i : Nat} {x : VV} (hx : l[i]? = some x) : ∃ ad : Addr, a = some ad ∧ w.cell? (ad.add (i * 3)) = some (.int .i64 x.k) ∧ w.cell? ⟨(ad.add (i * 3)).block, (ad.add (i * 3)).off + 1, none⟩ = some (.int .i64 x.n) ∧ w.cell? ⟨(ad.add (i * 3)).block, (ad.add (i * 3)).off + 2, none⟩ = some (.string x.s) := by
  obtain ⟨a', c', h1, _, h3⟩ := h
  cases h1
  rcases h3 with ⟨_, e, _⟩ | ⟨ad, h3, h4⟩
  · subst e; simp at hx
  · exact ⟨ad, h3, h4 i x hx⟩
theorem holdsV_nil (w : World) : HoldsV w (.slice none 0 0) [] := ⟨none, 0, rfl, Nat.le_refl _, .inl ⟨rfl, rfl, rfl⟩⟩
theorem holdsV_of_owns {w : World} {B : Nat} {v : Value} {l : List VV} (h : w.ownsRow B 36 3 v l.length (flatC l)) : HoldsV w v l := by
  obtain ⟨a, c, rfl, hc, _⟩ := ownsRow_form h
  rcases h.2 with ⟨e, hn⟩ | ⟨g, cap, cur, e, _, hg, _⟩
  · simp at e
    obtain ⟨rfl, e2, rfl⟩ := e
    exact ⟨_, _, rfl, hc, .inl ⟨rfl, e2, rfl⟩⟩
  · simp at e
    obtain ⟨rfl, rfl⟩ := e
    refine ⟨_, _, rfl, hc, .inr ⟨_, rfl, fun i x hx => ?_⟩⟩
    have hcell := h.cells (g := g) rfl
    obtain ⟨a0, a1, a2⟩ := flatC_at l i x hx
    have h0 := hcell _ _ a0
    have h1 := hcell _ _ a1
    have h2 := hcell _ _ a2
    simp only [Addr.add_at, Nat.zero_add] at h0 h1 h2 ⊢
    exact ⟨h0, h1, h2⟩
theorem info_value : (Tryz.prog.info? 36).map (fun i => (i.zero, i.size, i.bytes)) = some (some (.agg #[.int .i64 0, .int .i64 0, .string ⟨#[]⟩]), 3, 32) := by kernel_rfl
/-- a value more, behind a row of the call's own -/
theorem app_value {w : World} {B : Nat} {v : Value} {l : List VV} (hown : w.ownsRow B 36 3 v l.length (flatC l)) (hB : B ≤ w.heap.size) (x : VV) (hl : l.length ≤ 1000000000000) :
    ∃ v' w', (∀ ty, (Builtin.append_ #[22, 22] ty #[v, .slice (some ⟨w.heap.size, 0, none⟩) 1 1]).run Tryz.prog (w.alloc (.cells #[.int .i64 x.k, .int .i64 x.n, .string x.s] 36)) = .ok v' w') ∧
      w'.ownsRow B 36 3 v' (l ++ [x]).length (flatC (l ++ [x])) ∧ w.grownBy w' v.ownBlock := by
  obtain ⟨i, hi, hz0, hz1, hz2⟩ := info_parts info_value
  have hown' : (w.alloc (.cells #[.int .i64 x.k, .int .i64 x.n, .string x.s] 36)).ownsRow B 36 3 v l.length (flatC l) := hown.alloc _
  obtain ⟨v', w', hr, h2, h3, h4⟩ := run_append_own (P := Tryz.prog) (w := w.alloc (.cells #[.int .i64 x.k, .int .i64 x.n, .string x.s] 36)) B 22 0 36 i (.agg #[.int .i64 0, .int .i64 0, .string ⟨#[]⟩]) 3 32 Tryz.underlying22 hi hz0 hz1 hz2 rfl (by omega) v l.length (flatC l) hown'
    ⟨w.heap.size, 0, none⟩ 1 1 [.int .i64 x.k, .int .i64 x.n, .string x.s] rfl (fun j u' hj => by
      rw [Addr.add_at, Nat.zero_add, cell_of_row _ _ _ _ _ _ (heap_alloc_new w _)]
      simpa using hj) (fun u' hu' => by simp at hu'; rcases hu' with rfl | rfl | rfl <;> rfl) (by unfold maxLen; omega) (by omega) (by simp; omega)
  refine ⟨v', w', fun ty => hr, ?_, (World.grownBy_alloc w _ v.ownBlock).andThen h3 (fun j hj => .inr hj)⟩
  rw [flatC_snoc, List.length_append]
  exact h2
end Go.Proofs.YtlhpbfjelgmkeaaGreat
/- A value as a map's key, ids by values as a list, and the map of them in memory. Conditions: none. -/
set_option maxRecDepth 100000
namespace Go.Proofs.YtlhpbfjelgmkeaaGreat
open Go.RowKit Go.Maps Go.Sort Go.Lib

theorem KLawV : WideMaps.KeyLaw Tryz.prog 36 := deep_law_laid (show laidOutB Tryz.prog = true by kernel_rfl) (m := 2) (by omega) (of_decide_eq_true (by kernel_rfl)) (by kernel_rfl) (by rw [Tryz.underlying36])
theorem KPV : Keyed Tryz.prog 36 := Keyed.of_law KLawV

/-- a value as Go's types have it -/
def VV.ty (x : VV) : Prop := (-9223372036854775808 ≤ x.k ∧ x.k < 9223372036854775808) ∧ (-9223372036854775808 ≤ x.n ∧ x.n < 9223372036854775808) ∧ x.s.size ≤ maxLen
theorem VV.ty.inI {x : VV} (h : x.ty) : x.inI := h.2.1
theorem VV.ty.wk {x : VV} (h : x.ty) : (Lit.int .i64 x.k).wf = true := Go.WalkArith.wf_i64 ⟨h.1.1, by have := h.1.2; omega⟩
theorem VV.ty.wn {x : VV} (h : x.ty) : (Lit.int .i64 x.n).wf = true := Go.WalkArith.wf_i64 ⟨h.2.1.1, by have := h.2.1.2; omega⟩
theorem ty_none : VV.none_.ty := ⟨⟨by decide, by decide⟩, ⟨by decide, by decide⟩, by show (0 : Nat) ≤ _; unfold maxLen; omega⟩

abbrev VV.val (x : VV) : Value := vv x.k x.n x.s
def VV.lits (x : VV) : List Lit := [.int .i64 x.k, .int .i64 x.n, .string x.s.data.toList]
def VV.key (x : VV) : Lit := .string (keyBytes x.lits)
theorem key_inj {x y : VV} (hx : x.ty) (hy : y.ty) (h : x.key = y.key) : x = y := by
  have wf : ∀ z : VV, z.ty → ∀ a ∈ z.lits, a.keyWf := fun z hz a ha => by
    simp only [VV.lits, List.mem_cons, List.not_mem_nil, or_false] at ha
    rcases ha with rfl | rfl | rfl
    · exact hz.wk
    · exact hz.wn
    · show z.s.data.toList.length ≤ maxLen
      rw [← Lib.size_eq]; exact hz.2.2
  have := keyBytes_inj (l := x.lits) (l' := y.lits) ⟨rfl, rfl, trivial, trivial⟩ (wf x hx) (wf y hy) (Lit.string.inj h)
  obtain ⟨k, n, ⟨⟨s⟩⟩⟩ := x
  obtain ⟨k', n', ⟨⟨s'⟩⟩⟩ := y
  simp [VV.lits] at this
  obtain ⟨rfl, rfl, rfl⟩ := this
  rfl
theorem key_isKey (x : VV) : WideAt.IsKeyLit x.key := trivial
theorem keyLits_int {P : Program} {q : IntKind} {t : TypeId} (hu : P.underlying t = some (.int q)) {a : Int} (wa : (Lit.int q a).wf = true) (n : Nat) : P.keyLits (n + 1) t [.int q a] = some [.int q a] := by
  simp [Program.keyLits, hu, wa]
theorem keyLits_str {P : Program} {t : TypeId} (hu : P.underlying t = some .string) {s : ByteArray} (ws : s.size ≤ maxLen) (n : Nat) : P.keyLits (n + 1) t [.string s] = some [.string s.data.toList] := by
  simp [Program.keyLits, hu, ws]
theorem keyLits_three {P : Program} {q r : IntKind} {t ta tb tc : TypeId} {f g h : Field} (ht : P.underlying t = some (.struct #[f, g, h])) (hf : f.offset = 0 ∧ f.type = ta ∧ (f.name != "_") = true) (hg : g.offset = 1 ∧ g.type = tb ∧ (g.name != "_") = true) (hh : h.offset = 2 ∧ h.type = tc ∧ (h.name != "_") = true)
    (ha : P.underlying ta = some (.int q)) (hb : P.underlying tb = some (.int r)) (hc : P.underlying tc = some .string) (ca : P.cellsOf ta = 1) (cb : P.cellsOf tb = 1) (cc : P.cellsOf tc = 1) (ct : P.cellsOf t = 3) {a b : Int} {s : ByteArray} (wa : (Lit.int q a).wf = true) (wb : (Lit.int r b).wf = true) (ws : s.size ≤ maxLen) (n : Nat) :
    P.keyLits (n + 1 + 1) t [.int q a, .int r b, .string s] = some [.int q a, .int r b, .string s.data.toList] := by
  obtain ⟨f1, f2, f3⟩ := hf
  obtain ⟨g1, g2, g3⟩ := hg
  obtain ⟨h1, h2, h3⟩ := hh
  unfold Program.keyLits
  simp only [ht]
  rw [if_pos ⟨by rw [ct]; rfl, by simp [f3, g3, h3]⟩]
  simp only [List.mapM_cons, List.mapM_nil, f1, f2, g1, g2, h1, h2, ca, cb, cc, List.drop_zero, List.take_succ_cons, List.take_zero, List.drop_succ_cons, keyLits_int ha wa n, keyLits_int hb wb n, keyLits_str hc ws n]
  rfl
theorem val_key {x : VV} (h : x.ty) : keyOf Tryz.prog 36 x.val = some x.key := by
  have ht := Tryz.underlying36
  have ct : Tryz.prog.cellsOf 36 = 3 := by kernel_rfl
  obtain ⟨n, hsz⟩ : ∃ n, Tryz.prog.types.size = n + 1 := ⟨Tryz.prog.types.size - 1, by kernel_rfl⟩
  have hk : Tryz.prog.keyType 36 = true := by kernel_rfl
  unfold keyOf
  simp only [ht]
  rw [if_pos (by rw [hk]; simp [Value.formed, ht, ct]), hsz]
  simp only [Value.cells]
  rw [keyLits_three ht ⟨rfl, rfl, by decide⟩ ⟨rfl, rfl, by decide⟩ ⟨rfl, rfl, by decide⟩ Tryz.underlying3 Tryz.underlying3 Tryz.underlying9 (by kernel_rfl) (by kernel_rfl) (by kernel_rfl) ct h.wk h.wn h.2.2 n]
  rfl

/-! where a value stands -/
def VV.is (x y : VV) : Bool := sameV x.k x.n x.s y.k y.n y.s
theorem is_iff (x y : VV) : x.is y = true ↔ x = y := by
  obtain ⟨k, n, s⟩ := x
  obtain ⟨k', n', s'⟩ := y
  unfold VV.is sameV
  simp only [Bool.and_eq_true, beq_iff_eq, VV.mk.injEq]
  constructor
  · rintro ⟨h1, h2, h3⟩
    rw [Lib.toList_data, Lib.toList_data] at h3
    refine ⟨h1, h2, ?_⟩
    obtain ⟨⟨s⟩⟩ := s
    obtain ⟨⟨s'⟩⟩ := s'
    simp at h3
    rw [h3]
  · rintro ⟨h1, h2, h3⟩
    exact ⟨h1, h2, by rw [h3]⟩
theorem is_self (x : VV) : x.is x = true := (is_iff x x).2 rfl
theorem is_no {x y : VV} (h : x ≠ y) : x.is y = false := by
  cases e : x.is y
  · rfl
  · exact absurd ((is_iff x y).1 e) h
/-- where in a list a value stands first -/
def posV : List VV → VV → Option Nat
  | [], _ => none
  | y :: r, x => if y.is x then some 0 else (posV r x).map (· + 1)
theorem pos_at : ∀ {L : List VV} {x : VV} {i : Nat}, posV L x = some i → L[i]? = some x
  | [], _, _, h => by simp [posV] at h
  | y :: r, x, i, h => by
    unfold posV at h
    split at h
    · rename_i e
      simp at h
      subst h
      simp [(is_iff y x).1 e]
    · obtain ⟨j, hj, rfl⟩ := Option.map_eq_some_iff.1 h
      simpa using pos_at hj
theorem pos_lt {L : List VV} {x : VV} {i : Nat} (h : posV L x = some i) : i < L.length := (List.getElem?_eq_some_iff.1 (pos_at h)).1
theorem pos_none : ∀ {L : List VV} {x : VV}, posV L x = none ↔ x ∉ L
  | [], _ => by simp [posV]
  | y :: r, x => by
    unfold posV
    by_cases e : y = x
    · subst e; simp [is_self]
    · rw [is_no e]
      simp only [Bool.false_eq_true, if_false, Option.map_eq_none_iff, List.mem_cons, not_or]
      rw [pos_none]
      exact ⟨fun h => ⟨fun e' => e e'.symm, h⟩, fun h => h.2⟩
theorem pos_snoc : ∀ (L : List VV) (x y : VV), posV (L ++ [x]) y = (posV L y).or (if x.is y then some L.length else none)
  | [], x, y => by
    show (if x.is y then some 0 else (posV [] y).map (· + 1)) = _
    cases x.is y <;> rfl
  | z :: r, x, y => by
    have ih := pos_snoc r x y
    show (if z.is y then some 0 else (posV (r ++ [x]) y).map (· + 1)) = (if z.is y then some 0 else (posV r y).map (· + 1)).or _
    cases h : z.is y
    · rw [ih]
      cases h1 : posV r y <;> cases h2 : x.is y <;> simp
    · simp
/-- no value stands twice -/
theorem pos_of_nodup {L : List VV} (h : L.Nodup) {i : Nat} {x : VV} (hx : L[i]? = some x) : posV L x = some i := by
  cases hp : posV L x with
  | none => exact absurd (List.mem_of_getElem? hx) (pos_none.1 hp)
  | some j =>
    have hj := pos_at hp
    obtain ⟨h1, e1⟩ := List.getElem?_eq_some_iff.1 hx
    obtain ⟨h2, e2⟩ := List.getElem?_eq_some_iff.1 hj
    have hd : ∀ a b (ha : a < L.length) (hb : b < L.length), a < b → L[a] ≠ L[b] := List.pairwise_iff_getElem.1 h
    rcases Nat.lt_trichotomy i j with g | g | g
    · exact absurd (e1.trans e2.symm) (hd i j h1 h2 g)
    · rw [g]
    · exact absurd (e2.trans e1.symm) (hd j i h2 h1 g)

theorem zero_int (w : World) : (zeroValue 3).run Tryz.prog w = .ok (.int .i64 0) w := by kernel_rfl
/-- at block b lies a map from these values to their ids -/
def MAt (w : World) (b : Nat) (L : List VV) : Prop :=
  ∃ D : DataW Unit, w.ownsMap Tryz.prog 36 (plainElem Tryz.prog 3) b L.length D ∧ ∀ x : VV, x.ty → Maps.has D x.key = (posV L x).isSome ∧ D.atKey x.key (.lit (.int .i64 0)) = .lit (.int .i64 (((posV L x).getD 0 : Nat) : Int))
theorem MAt.of_block {w w' : World} {b : Nat} {L : List VV} (h : MAt w b L) (hb : w'.heap[b]? = w.heap[b]?) : MAt w' b L := by
  obtain ⟨D, ⟨es, clock, h1, h2⟩, h3⟩ := h
  exact ⟨D, ⟨es, clock, hb.trans h1, h2⟩, h3⟩
theorem MAt.lt {w : World} {b : Nat} {L : List VV} (h : MAt w b L) : b < w.heap.size := by
  obtain ⟨D, h, _⟩ := h
  exact h.lt
theorem MAt.isMap {w : World} {b : Nat} {L : List VV} (h : MAt w b L) : ∃ es clock, w.heap[b]? = some (.map es clock) := by
  obtain ⟨D, ⟨es, clock, h1, _⟩, _⟩ := h
  exact ⟨es, clock, h1⟩
theorem MAt.made (w : World) : MAt (w.alloc (.map #[] 0)) w.heap.size [] :=
  ⟨.map [], World.ownsMap_made w _ _ _, fun _ _ => ⟨rfl, rfl⟩⟩
end Go.Proofs.YtlhpbfjelgmkeaaGreat
