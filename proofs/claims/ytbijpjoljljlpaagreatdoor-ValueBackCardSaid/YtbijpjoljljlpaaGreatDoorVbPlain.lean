/- Plain mathematics of values in bytes: what bytes tell, and what is read of them. Conditions: none. -/
import Derived.Test.YtbijpjoljljlpaaGreatDoorGetDig
import Derived.Test.YtbijpjoljljlpaaGreatDoorCodecZig
import Derived.Test.YtbijpjoljljlpaaGreatDoorValD
set_option maxRecDepth 100000
namespace Go.Proofs.YtbijpjoljljlpaaGreatDoor
open Go.RowKit Go.Lib

/-- a value of a row -/
structure VV where
  k : Int
  n : Int
  s : ByteArray
def VV.none_ : VV := ⟨0, 0, ⟨#[]⟩⟩
def VV.good (x : VV) : Bool := goodV x.k x.n x.s
def VV.norm (x : VV) : VV := if x.good then x else VV.none_
/-- the number that a value has in bytes -/
def zgN (n : Int) : Nat := (zigN n).toNat
/-- those behind its kind's -/
def VV.body (x : VV) : List UInt8 := if x.k = 1 ∨ x.k = 2 ∨ x.k = 4 then dig (zgN x.n) else if x.k = 3 then dig x.s.size ++ x.s.data.toList else []
def VV.bytes (x : VV) : List UInt8 := dig x.k.toNat ++ x.body
def flatV (l : List VV) : List UInt8 := (l.map fun x => x.norm.bytes).flatten
def bytesV (l : List VV) : List UInt8 := dig l.length ++ flatV l

theorem goodV_kind {k n : Int} {s : ByteArray} (h : goodV k n s = true) : 0 ≤ k ∧ k ≤ 4 := by
  unfold goodV at h
  split at h
  · omega
  · split at h
    · omega
    · split at h
      · omega
      · split at h
        · omega
        · split at h
          · omega
          · cases h
theorem str_nil {s : ByteArray} (h : (s.toList == []) = true) : s = ⟨#[]⟩ := by
  have h1 := eq_of_beq h
  rw [Lib.toList_data] at h1
  rcases s with ⟨⟨l⟩⟩
  simp at h1
  subst h1
  rfl
/-- what a good value is -/
theorem good_cases {x : VV} (h : x.good = true) : x = VV.none_ ∨ (x.k = 1 ∧ x.s = ⟨#[]⟩) ∨ (x.k = 2 ∧ x.s = ⟨#[]⟩) ∨ (x.k = 3 ∧ x.n = 0 ∧ x.s.size ≤ 64) ∨ (x.k = 4 ∧ x.s = ⟨#[]⟩) := by
  obtain ⟨k, n, s⟩ := x
  unfold VV.good goodV at h
  simp only at h ⊢
  split at h
  · rename_i hk
    rw [Bool.and_eq_true] at h
    have h1 := eq_of_beq h.1
    have h2 := str_nil h.2
    subst hk h1 h2
    exact .inl rfl
  · split at h
    · rename_i hk; exact .inr (.inl ⟨hk, str_nil h⟩)
    · split at h
      · rename_i hk; rw [Bool.and_eq_true] at h; exact .inr (.inr (.inl ⟨hk, str_nil h.2⟩))
      · split at h
        · rename_i hk; rw [Bool.and_eq_true, decide_eq_true_eq] at h; exact .inr (.inr (.inr (.inl ⟨hk, eq_of_beq h.2, h.1⟩)))
        · split at h
          · rename_i hk; rw [Bool.and_eq_true] at h; exact .inr (.inr (.inr (.inr ⟨hk, str_nil h.2⟩)))
          · cases h
theorem none_good : VV.none_.good = true := by
  unfold VV.good VV.none_ goodV
  simp [Lib.toList_data]
theorem norm_good (x : VV) : x.norm.good = true := by
  unfold VV.norm
  split
  · assumption
  · exact none_good
theorem norm_of {x : VV} (h : x.good = true) : x.norm = x := by unfold VV.norm; rw [if_pos h]
theorem norm_norm (x : VV) : x.norm.norm = x.norm := norm_of (norm_good x)
theorem bytesV_norm (l : List VV) : bytesV (l.map VV.norm) = bytesV l := by
  unfold bytesV flatV
  rw [List.length_map, List.map_map]
  congr 3
  funext x
  simp [norm_norm]
theorem zig_zag (n : Int) (h0 : -9223372036854775808 ≤ n) (h1 : n < 9223372036854775808) : zagN (zgN n) = n ∧ zgN n < 18446744073709551616 := by
  unfold zgN
  by_cases h : n < 0
  · rw [zig_neg h]
    have e : (-2 * n - 1).toNat % 2 = 1 := by omega
    rw [zag_odd e]; omega
  · rw [zig_pos h]
    have e : ¬ (2 * n).toNat % 2 = 1 := by omega
    rw [zag_even e]; omega
/-- an int is one of 64 bits -/
def VV.inI (x : VV) : Prop := -9223372036854775808 ≤ x.n ∧ x.n < 9223372036854775808

/-- the value that bytes begin with, and how many bytes it has -/
def firstV (l : List UInt8) : VV × Nat :=
  let p := getN l
  let r := l.drop p.2
  let q := getN r
  if p.1 = 1 ∨ p.1 = 2 ∨ p.1 = 4 then (⟨(p.1 : Int), zagN q.1, ⟨#[]⟩⟩, p.2 + q.2)
  else if p.1 = 3 then if l.length - (p.2 + q.2) < q.1 then (VV.none_, 0) else (⟨3, 0, ⟨((r.drop q.2).take q.1).toArray⟩⟩, p.2 + q.2 + q.1)
  else (⟨IntKind.i64.wrap (p.1 : Int), 0, ⟨#[]⟩⟩, p.2)
/-- the values that bytes tell, as many as there are, at most so many -/
def readL : Nat → List UInt8 → List VV
  | 0, _ => []
  | c + 1, l => if (firstV l).2 = 0 then [] else (firstV l).1 :: readL c (l.drop (firstV l).2)
def readV (b : List UInt8) : List VV := readL (getN b).1 (b.drop (getN b).2)

theorem get_app (u : Nat) (hu : u < 18446744073709551616) (r : List UInt8) : getN (dig u ++ r) = (u, (dig u).length) := get_dig0 r hu
theorem drop_app (u : Nat) (r : List UInt8) : (dig u ++ r).drop (dig u).length = r := List.drop_left
theorem wrap_small {n : Nat} (h : n ≤ 4) : IntKind.i64.wrap (n : Int) = (n : Int) := by rw [IntKind.wrap_i64]; omega

theorem first_good {x : VV} (h : x.good = true) (hi : x.inI) (r : List UInt8) : firstV (x.bytes ++ r) = (x, x.bytes.length) := by
  have hk := goodV_kind h
  have num : ∀ k : Nat, (k = 1 ∨ k = 2 ∨ k = 4) → x.k = (k : Int) → x.s = ⟨#[]⟩ → firstV (x.bytes ++ r) = (x, x.bytes.length) := fun k hk e es => by
    have eb : x.bytes = dig k ++ dig (zgN x.n) := by
      unfold VV.bytes VV.body
      rw [if_pos (by omega), e]
      rfl
    obtain ⟨z1, z2⟩ := zig_zag x.n hi.1 hi.2
    unfold firstV
    rw [eb, List.append_assoc, get_app k (by omega)]
    dsimp only
    rw [drop_app, get_app _ z2]
    dsimp only
    rw [if_pos hk, z1, ← e, ← es, List.length_append]
  rcases good_cases h with rfl | ⟨e, es⟩ | ⟨e, es⟩ | ⟨e, en, es⟩ | ⟨e, es⟩
  · have eb : VV.none_.bytes = dig 0 := by unfold VV.bytes VV.body VV.none_; simp
    unfold firstV
    rw [eb, get_app 0 (by omega)]
    simp only
    rw [if_neg (by omega), if_neg (by omega)]
    rfl
  · exact num 1 (by omega) e es
  · exact num 2 (by omega) e es
  · have eb : x.bytes = dig 3 ++ (dig x.s.size ++ x.s.data.toList) := by
      unfold VV.bytes VV.body
      rw [if_neg (by omega), if_pos e, e]
      rfl
    have hl : x.s.data.toList.length = x.s.size := (Lib.size_eq x.s).symm
    have ht : (x.s.data.toList ++ r).take x.s.size = x.s.data.toList := by
      rw [← hl]; exact List.take_left
    unfold firstV
    rw [eb, List.append_assoc, get_app 3 (by omega)]
    dsimp only
    rw [drop_app, List.append_assoc, get_app _ (by omega)]
    dsimp only
    rw [drop_app]
    rw [if_neg (by omega), if_pos rfl, if_neg (by simp only [List.length_append]; omega), ht]
    refine Prod.ext ?_ ?_
    · obtain ⟨k, n, s⟩ := x
      simp only at e en
      subst e en
      rfl
    · simp only [List.length_append]; omega
  · exact num 4 (by omega) e es
theorem bytes_pos (x : VV) : 0 < x.bytes.length := by
  unfold VV.bytes
  rw [List.length_append]
  have := dig_pos x.k.toNat
  omega
theorem flatV_cons (x : VV) (l : List VV) : flatV (x :: l) = x.norm.bytes ++ flatV l := by simp [flatV]
theorem readL_good : ∀ ws : List VV, (∀ x ∈ ws, x.good = true ∧ x.inI) → ∀ r, readL ws.length (flatV ws ++ r) = ws
  | [], _, r => rfl
  | x :: l, h, r => by
    have hx := h x (List.mem_cons_self ..)
    rw [flatV_cons, norm_of hx.1, List.append_assoc, List.length_cons]
    have hf := first_good hx.1 hx.2 (flatV l ++ r)
    have hp := bytes_pos x
    unfold readL
    rw [hf]
    simp only
    rw [if_neg (by omega), List.drop_left, readL_good l (fun y hy => h y (List.mem_cons_of_mem _ hy)) r]
theorem readV_good {ws : List VV} (h : ∀ x ∈ ws, x.good = true ∧ x.inI) (hl : ws.length < 18446744073709551616) : readV (bytesV ws) = ws := by
  have := readL_good ws h []
  rw [List.append_nil] at this
  unfold readV bytesV
  rw [get_app _ hl, drop_app]
  exact this
/-- what Load answers -/
def loadV (b : List UInt8) : Option (List VV) := if bytesV (readV b) = b then some (readV b) else none
theorem inI_none : VV.none_.inI := ⟨by decide, by decide⟩
theorem inI_norm {x : VV} (h : x.inI) : x.norm.inI := by
  unfold VV.norm
  split
  · exact h
  · exact inI_none
theorem zag_inI (u : Nat) (h : u < 18446744073709551616) : -9223372036854775808 ≤ zagN u ∧ zagN u < 9223372036854775808 := by
  by_cases hu : u % 2 = 1
  · rw [zag_odd hu]; omega
  · rw [zag_even hu]; omega
theorem getAt_le : ∀ (l : List UInt8) (i U : Nat), i ≤ 10 → U < 2 ^ (7 * i) → (getAt l i U).2 ≤ i + l.length ∧ (getAt l i U).1 < 18446744073709551616 := by
  intro l
  induction l with
  | nil => intro i U _ _; rw [get_nil]; simp
  | cons c r ih =>
    intro i U hi hU
    by_cases h10 : i = 10
    · subst h10; rw [get_ten]; simp
    have hi2 : i < 10 := by omega
    by_cases h9 : i = 9 ∧ 1 < c.toNat
    · obtain ⟨rfl, h9⟩ := h9
      rw [get_bad _ _ _ h9]; simp
    by_cases h0 : 0 < i ∧ c.toNat = 0
    · rw [get_zero _ _ _ _ h0.1 hi2 h0.2]; simp
    have hb : U + (c.toNat % 128) * 2 ^ (7 * i) < 2 ^ (7 * (i + 1)) := by
      have e : 2 ^ (7 * (i + 1)) = 128 * 2 ^ (7 * i) := by rw [show 7 * (i + 1) = 7 + 7 * i by omega, Nat.pow_add]
      have hm : c.toNat % 128 ≤ 127 := by omega
      have := Nat.mul_le_mul_right (2 ^ (7 * i)) hm
      rw [e]
      have : 128 * 2 ^ (7 * i) = 127 * 2 ^ (7 * i) + 2 ^ (7 * i) := Nat.succ_mul 127 _
      omega
    by_cases h1 : c.toNat < 128
    · rw [get_last _ _ _ _ hi2 h0 h9 h1]
      rw [Nat.mod_eq_of_lt h1] at hb
      refine ⟨by simp only [List.length_cons]; omega, ?_⟩
      simp only
      by_cases hi9 : i = 9
      · subst hi9
        have hc : c.toNat ≤ 1 := by omega
        have := Nat.mul_le_mul_right (2 ^ (7 * 9)) hc
        have e : (2 : Nat) ^ (7 * 9) = 9223372036854775808 := by decide
        rw [e] at this hU ⊢
        omega
      · have : 2 ^ (7 * (i + 1)) ≤ 2 ^ 63 := Nat.pow_le_pow_right (by omega) (by omega)
        have e : (2 : Nat) ^ 63 = 9223372036854775808 := by decide
        omega
    · rw [get_more _ _ _ _ hi2 h1]
      have hc := c.toNat_lt
      have e2 : c.toNat - 128 = c.toNat % 128 := by omega
      rw [e2]
      have := ih (i + 1) _ (by omega) hb
      simp only [List.length_cons]
      omega
theorem getN_bound (l : List UInt8) : (getN l).2 ≤ l.length ∧ (getN l).1 < 18446744073709551616 := by
  have := getAt_le l 0 0 (by omega) (by decide)
  rw [Nat.zero_add] at this
  exact this
theorem first_le (l : List UInt8) : (firstV l).2 ≤ l.length := by
  have h1 := (getN_bound l).1
  have h2 := (getN_bound (l.drop (getN l).2)).1
  rw [List.length_drop] at h2
  unfold firstV
  simp only
  split
  · simp only; omega
  · split
    · split
      · simp
      · simp only; omega
    · simp only; omega
theorem first_inI (l : List UInt8) : (firstV l).1.inI := by
  have h2 := (getN_bound (l.drop (getN l).2)).2
  unfold firstV
  simp only
  split
  · exact zag_inI _ h2
  · split
    · split
      · exact inI_none
      · exact ⟨by simp, by simp⟩
    · exact ⟨by simp, by simp⟩
theorem readL_inI : ∀ (c : Nat) (l : List UInt8), ∀ x ∈ readL c l, x.inI
  | 0, _, x, h => by simp [readL] at h
  | c + 1, l, x, h => by
    unfold readL at h
    split at h
    · simp at h
    · rcases List.mem_cons.1 h with rfl | h
      · exact first_inI l
      · exact readL_inI c _ x h
theorem readL_len : ∀ (c : Nat) (l : List UInt8), (readL c l).length ≤ l.length ∧ (readL c l).length ≤ c
  | 0, _ => by simp [readL]
  | c + 1, l => by
    unfold readL
    split
    · simp
    · have h1 := readL_len c (l.drop (firstV l).2)
      have h2 := first_le l
      rw [List.length_drop] at h1
      simp only [List.length_cons]
      omega
theorem readV_inI (b : List UInt8) : ∀ x ∈ readV b, x.inI := readL_inI _ _
theorem readV_len (b : List UInt8) : (readV b).length ≤ b.length := by
  have := (readL_len (getN b).1 (b.drop (getN b).2)).1
  rw [List.length_drop] at this
  unfold readV
  omega
/-- Load answers just the good values of which the bytes are -/
theorem load_iff {b : List UInt8} (hb : b.length < 18446744073709551616) {ws : List VV} : loadV b = some ws ↔ (∀ x ∈ ws, x.good = true ∧ x.inI) ∧ ws.length < 18446744073709551616 ∧ b = bytesV ws := by
  constructor
  · intro h
    unfold loadV at h
    split at h
    · rename_i he
      simp at h
      subst h
      have hl := readV_len b
      have hg : ∀ x ∈ (readV b).map VV.norm, x.good = true ∧ x.inI := fun x hx => by
        obtain ⟨y, hy, rfl⟩ := List.mem_map.1 hx
        exact ⟨norm_good y, inI_norm (readV_inI b y hy)⟩
      have h1 := readV_good hg (by rw [List.length_map]; omega)
      rw [bytesV_norm, he] at h1
      refine ⟨fun x hx => ?_, by omega, he.symm⟩
      rw [h1] at hx
      exact hg x hx
    · cases h
  · rintro ⟨h1, h2, rfl⟩
    unfold loadV
    rw [readV_good h1 h2, if_pos rfl]
theorem load_none {b : List UInt8} (hb : b.length < 18446744073709551616) : loadV b = none ↔ ∀ ws : List VV, (∀ x ∈ ws, x.good = true ∧ x.inI) → ws.length < 18446744073709551616 → b ≠ bytesV ws := by
  constructor
  · intro h ws h1 h2 h3
    have := (load_iff hb).2 ⟨h1, h2, h3⟩
    rw [h] at this; cases this
  · intro h
    cases e : loadV b with
    | none => rfl
    | some ws =>
      obtain ⟨h1, h2, h3⟩ := (load_iff hb).1 e
      exact absurd h3 (h ws h1 h2)
end Go.Proofs.YtbijpjoljljlpaaGreatDoor
