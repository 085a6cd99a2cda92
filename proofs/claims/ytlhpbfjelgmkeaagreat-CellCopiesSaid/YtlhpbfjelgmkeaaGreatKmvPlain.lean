/- The least numbers of a set, as plain lists: a number more, two lists merged; they hang on the set alone. Conditions: none. -/
import Derived.Test.YtlhpbfjelgmkeaaGreatGen
set_option maxRecDepth 100000
namespace Go.Proofs.YtlhpbfjelgmkeaaGreat
open Go.RowKit

/-- how many lie below h -/
def cntL (h : Nat) (l : List Nat) : Nat := l.countP (fun y => decide (y < h))
/-- h more, the t least -/
def addL (t h : Nat) (l : List Nat) : List Nat := if h ∈ l then l else (l.take (cntL h l) ++ h :: l.drop (cntL h l)).take t
/-- those of b, too -/
def mergeL (t : Nat) (a b : List Nat) : List Nat := b.foldl (fun r h => addL t h r) a
abbrev Up (l : List Nat) : Prop := l.Pairwise (· < ·)

theorem cntL_le (h : Nat) (l : List Nat) : cntL h l ≤ l.length := List.countP_le_length
theorem cntL_zero {h : Nat} {l : List Nat} (hl : ∀ y ∈ l, h ≤ y) : cntL h l = 0 := by
  unfold cntL
  rw [List.countP_eq_zero]
  intro y hy
  have := hl y hy
  simp
  omega
theorem cntL_cons (h y : Nat) (r : List Nat) (hu : Up (y :: r)) : cntL h (y :: r) = if y < h then cntL h r + 1 else 0 := by
  obtain ⟨h1, h2⟩ := List.pairwise_cons.1 hu
  by_cases g : y < h
  · rw [if_pos g]; unfold cntL; rw [List.countP_cons]; simp [g]
  · rw [if_neg g]
    refine cntL_zero fun z hz => ?_
    rcases List.mem_cons.1 hz with rfl | hz
    · omega
    · have := h1 z hz; omega
theorem cntL_at (h : Nat) : ∀ (l : List Nat), Up l → ∀ k (hk : k < l.length), l[k] < h ↔ k < cntL h l
  | [], _, k, hk => by simp at hk
  | y :: r, hu, k, hk => by
    have hu' := List.pairwise_cons.1 hu
    rw [cntL_cons h y r hu]
    by_cases g : y < h
    · rw [if_pos g]
      cases k with
      | zero => simp [g]
      | succ k =>
        have := cntL_at h r hu'.2 k (by simpa using hk)
        rw [List.getElem_cons_succ, this]; omega
    · rw [if_neg g]
      cases k with
      | zero => simp [g]
      | succ k =>
        have := hu'.1 _ (List.getElem_mem (l := r) (n := k) (by simpa using hk))
        rw [List.getElem_cons_succ]
        omega
theorem take_lt {h : Nat} {l : List Nat} (hu : Up l) : ∀ y ∈ l.take (cntL h l), y < h := by
  intro y hy
  obtain ⟨k, hk, rfl⟩ := List.getElem_of_mem hy
  rw [List.length_take] at hk
  rw [List.getElem_take, cntL_at h l hu k (by omega)]
  omega
theorem drop_ge {h : Nat} {l : List Nat} (hu : Up l) : ∀ y ∈ l.drop (cntL h l), h ≤ y := by
  intro y hy
  obtain ⟨k, hk, rfl⟩ := List.getElem_of_mem hy
  rw [List.length_drop] at hk
  rw [List.getElem_drop]
  have := cntL_at h l hu (cntL h l + k) (by omega)
  omega
theorem full_up {h : Nat} {l : List Nat} (hu : Up l) (hm : h ∉ l) : Up (l.take (cntL h l) ++ h :: l.drop (cntL h l)) := by
  refine List.pairwise_append.2 ⟨hu.take, List.pairwise_cons.2 ⟨fun y hy => ?_, hu.drop⟩, fun x hx y hy => ?_⟩
  · have h1 := drop_ge hu y hy
    have h2 : y ≠ h := fun e => hm (e ▸ List.mem_of_mem_drop hy)
    omega
  · have h1 := take_lt hu x hx
    rcases List.mem_cons.1 hy with rfl | hy
    · exact h1
    · have := drop_ge hu y hy; omega
theorem full_mem {h : Nat} {l : List Nat} (x : Nat) : x ∈ l.take (cntL h l) ++ h :: l.drop (cntL h l) ↔ x = h ∨ x ∈ l := by
  conv => rhs; rw [← List.take_append_drop (cntL h l) l]
  simp only [List.mem_append, List.mem_cons]
  constructor
  · rintro (a | a | a) <;> simp [a]
  · rintro (a | a | a) <;> simp [a]
theorem full_len {h : Nat} {l : List Nat} : (l.take (cntL h l) ++ h :: l.drop (cntL h l)).length = l.length + 1 := by
  have := cntL_le h l
  simp; omega
/-- the place tells whether h is there -/
theorem mem_iff_at {h : Nat} {l : List Nat} (hu : Up l) : h ∈ l ↔ ∃ hk : cntL h l < l.length, l[cntL h l] = h := by
  constructor
  · intro hm
    obtain ⟨k, hk, e⟩ := List.getElem_of_mem hm
    have h1 := cntL_at h l hu k hk
    have h2 : ¬ k < cntL h l := fun g => by have := h1.2 g; omega
    have h3 : ¬ cntL h l < k := fun g => by
      have h4 := (List.pairwise_iff_getElem.1 hu) (cntL h l) k (by omega) hk g
      have h5 := cntL_at h l hu (cntL h l) (by omega)
      omega
    have h6 : cntL h l = k := by omega
    exact ⟨by omega, by simp [h6, e]⟩
  · rintro ⟨hk, e⟩
    exact e ▸ List.getElem_mem hk

/-- l is the t least of the set S -/
structure Least (t : Nat) (S : Nat → Prop) (l : List Nat) : Prop where
  up : Up l
  len : l.length ≤ t
  mem : ∀ x ∈ l, S x
  all : ∀ x, S x → x ∈ l ∨ (l.length = t ∧ ∀ y ∈ l, y < x)

theorem up_nodup {l : List Nat} (h : Up l) : l.Nodup := h.imp (fun h => Nat.ne_of_lt h)
theorem Least.nil (t : Nat) : Least t (fun _ => False) [] := ⟨List.Pairwise.nil, Nat.zero_le _, fun x h => by simp at h, fun x h => h.elim⟩
theorem Least.iff {t : Nat} {S S' : Nat → Prop} {l : List Nat} (h : Least t S l) (hs : ∀ x, S' x ↔ S x) : Least t S' l :=
  ⟨h.up, h.len, fun x hx => (hs x).2 (h.mem x hx), fun x hx => h.all x ((hs x).1 hx)⟩
/-- the first t of a list that rises -/
theorem take_all {t : Nat} {f : List Nat} (hu : Up f) {x : Nat} (hx : x ∈ f) : x ∈ f.take t ∨ ((f.take t).length = t ∧ ∀ y ∈ f.take t, y < x) := by
  rw [← List.take_append_drop t f] at hx hu
  rcases List.mem_append.1 hx with h | h
  · exact .inl h
  · refine .inr ⟨?_, fun y hy => (List.pairwise_append.1 hu).2.2 y hy x h⟩
    have : 0 < (f.drop t).length := List.length_pos_of_mem h
    rw [List.length_drop] at this
    rw [List.length_take]; omega
theorem addL_new {t h : Nat} {l : List Nat} (hm : h ∉ l) : addL t h l = (l.take (cntL h l) ++ h :: l.drop (cntL h l)).take t := if_neg hm
theorem addL_old {t h : Nat} {l : List Nat} (hm : h ∈ l) : addL t h l = l := if_pos hm
/-- a list that is full and lies below h stays -/
theorem addL_full {t h : Nat} {l : List Nat} (hl : l.length = t) (hc : cntL h l = t) : addL t h l = l := by
  by_cases hm : h ∈ l
  · exact addL_old hm
  · rw [addL_new hm, hc, ← hl, List.take_length, List.drop_length]
    simp
theorem addL_len {t h : Nat} {l : List Nat} (hl : l.length ≤ t) : (addL t h l).length ≤ t := by
  by_cases hm : h ∈ l
  · rwa [addL_old hm]
  · rw [addL_new hm, List.length_take]; omega
theorem addL_mem {t h x : Nat} {l : List Nat} (hx : x ∈ addL t h l) : x = h ∨ x ∈ l := by
  by_cases hm : h ∈ l
  · rw [addL_old hm] at hx; exact .inr hx
  · rw [addL_new hm] at hx
    exact (full_mem x).1 (List.mem_of_mem_take hx)
theorem addL_up {t h : Nat} {l : List Nat} (hu : Up l) : Up (addL t h l) := by
  by_cases hm : h ∈ l
  · rwa [addL_old hm]
  · rw [addL_new hm]
    exact (full_up hu hm).take
theorem up_cut {f : List Nat} (hu : Up f) (t : Nat) : ∀ y ∈ f.take t, ∀ z ∈ f.drop t, y < z := by
  rw [← List.take_append_drop t f] at hu
  exact (List.pairwise_append.1 hu).2.2
theorem Least.add {t : Nat} {S : Nat → Prop} {l : List Nat} (hl : Least t S l) (h : Nat) : Least t (fun x => x = h ∨ S x) (addL t h l) := by
  refine ⟨addL_up hl.up, addL_len hl.len, fun x hx => ?_, fun x hx => ?_⟩
  · rcases addL_mem hx with g | g
    · exact .inl g
    · exact .inr (hl.mem x g)
  · by_cases hm : h ∈ l
    · rw [addL_old hm]
      rcases hx with rfl | hx
      · exact .inl hm
      · exact hl.all x hx
    · have hf := full_up hl.up hm
      have hlen := full_len (h := h) (l := l)
      rw [addL_new hm]
      by_cases hxf : x = h ∨ x ∈ l
      · exact take_all hf ((full_mem x).2 hxf)
      · have hxl : x ∉ l := fun g => hxf (.inr g)
        rcases hx with rfl | hx
        · exact absurd (.inl rfl) hxf
        · rcases hl.all x hx with g | ⟨g1, g2⟩
          · exact absurd g hxl
          · have htl : ((l.take (cntL h l) ++ h :: l.drop (cntL h l)).take t).length = t := by rw [List.length_take]; omega
            refine .inr ⟨htl, fun y hy => ?_⟩
            rcases (full_mem y).1 (List.mem_of_mem_take hy) with rfl | g
            · -- h is not the last one
              have hd : 0 < ((l.take (cntL y l) ++ y :: l.drop (cntL y l)).drop t).length := by rw [List.length_drop]; omega
              obtain ⟨z, hz⟩ := List.exists_mem_of_length_pos hd
              have hyz := up_cut hf t y hy z hz
              rcases (full_mem z).1 (List.mem_of_mem_drop hz) with rfl | gz
              · omega
              · have := g2 z gz; omega
            · exact g2 y g
theorem sub_of_len {a b : List Nat} (ha : a.Nodup) (hs : ∀ x ∈ a, x ∈ b) (hl : b.length ≤ a.length) : ∀ x ∈ b, x ∈ a := by
  intro x hx
  rcases Decidable.em (x ∈ a) with g | g
  · exact g
  · exfalso
    have hn : (x :: a).Nodup := List.nodup_cons.2 ⟨g, ha⟩
    have h1 : (x :: a).length ≤ b.length := hn.length_le_of_subset (by
      intro y hy
      rcases List.mem_cons.1 hy with rfl | hy
      · exact hx
      · exact hs y hy)
    simp at h1
    omega

theorem Least.add_all {t : Nat} {S : Nat → Prop} : ∀ (b l : List Nat), Least t S l → Least t (fun x => x ∈ b ∨ S x) (mergeL t l b)
  | [], l, h => h.iff (fun x => by simp)
  | y :: b, l, h => (Least.add_all b (addL t y l) (h.add y)).iff (fun x => by simp [or_left_comm, or_assoc])
/-- the least of two sets are among the least of each -/
theorem Least.merge {t : Nat} {S S' : Nat → Prop} {a b : List Nat} (ha : Least t S a) (hb : Least t S' b) : Least t (fun x => S x ∨ S' x) (mergeL t a b) := by
  have h := Least.add_all b a ha
  refine ⟨h.up, h.len, fun x hx => ?_, fun x hx => ?_⟩
  · rcases h.mem x hx with g | g
    · exact .inr (hb.mem x g)
    · exact .inl g
  · by_cases hxb : x ∈ b ∨ S x
    · exact h.all x hxb
    · rcases hx with g | g
      · exact absurd (.inr g) hxb
      · rcases hb.all x g with g | ⟨g1, g2⟩
        · exact absurd (.inl g) hxb
        · rcases Decidable.em (∀ y ∈ b, y ∈ mergeL t a b) with hs | hs
          · have hl := (up_nodup hb.up).length_le_of_subset hs
            have hlt := h.len
            have := sub_of_len (up_nodup hb.up) hs (by omega)
            exact .inr ⟨by omega, fun y hy => g2 y (this y hy)⟩
          · have ⟨y, hy⟩ : ∃ y, y ∈ b ∧ y ∉ mergeL t a b := by simpa using hs
            rcases h.all y (.inl hy.1) with g3 | ⟨g3, g4⟩
            · exact absurd g3 hy.2
            · exact .inr ⟨g3, fun z hz => Nat.lt_trans (g4 z hz) (g2 y hy.1)⟩
theorem least_sub {t : Nat} {S : Nat → Prop} {a b : List Nat} (ha : Least t S a) (hb : Least t S b) : ∀ x ∈ a, x ∈ b := by
  intro x hx
  rcases hb.all x (ha.mem x hx) with g | ⟨g1, g2⟩
  · exact g
  · exfalso
    have hs : ∀ y ∈ b, y ∈ a := by
      intro y hy
      rcases ha.all y (hb.mem y hy) with g | ⟨_, g4⟩
      · exact g
      · have h1 := g4 x hx
        have h2 := g2 y hy
        omega
    have := sub_of_len (up_nodup hb.up) hs (by have := ha.len; omega) x hx
    have := g2 x this
    omega
/-- a set has one list of t least -/
theorem least_eq {t : Nat} {S : Nat → Prop} {a b : List Nat} (ha : Least t S a) (hb : Least t S b) : a = b := by
  have hp : a.Perm b := (List.perm_ext_iff_of_nodup (up_nodup ha.up) (up_nodup hb.up)).2 fun x => ⟨least_sub ha hb x, least_sub hb ha x⟩
  exact hp.eq_of_pairwise (le := fun x y => decide (x ≤ y)) (fun x y _ _ h1 h2 => by simp at h1 h2; omega) (ha.up.imp (by simp; omega)) (hb.up.imp (by simp; omega))
/-- how many there are -/
theorem least_len {t : Nat} {H l : List Nat} (hn : H.Nodup) (h : Least t (· ∈ H) l) : l.length = min t H.length := by
  have h1 := (up_nodup h.up).length_le_of_subset h.mem
  have h2 := h.len
  by_cases g : l.length = t
  · omega
  · have : ∀ x ∈ H, x ∈ l := fun x hx => by
      rcases h.all x hx with g1 | ⟨g1, _⟩
      · exact g1
      · exact absurd g1 g
    have := hn.length_le_of_subset this
    omega
end Go.Proofs.YtlhpbfjelgmkeaaGreat
