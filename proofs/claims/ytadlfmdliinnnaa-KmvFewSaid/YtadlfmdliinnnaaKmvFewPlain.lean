/- How many hashes a copy has: as many as there are unlike numbers, if those are not more than T. Conditions: good settings. -/
import Derived.Test.YtadlfmdliinnnaaKmvSets
import Derived.Test.YtadlfmdliinnnaaFermat
set_option maxRecDepth 100000
namespace Go.Proofs.Ytadlfmdliinnnaa
open Go.RowKit Go.Maps Go.Sort

theorem cancel_mod (m a i x y : Nat) (h : a * i % m = 1) (e : a * x % m = a * y % m) : x % m = y % m := by
  have hx : ∀ z, i * (a * z) % m = z % m := fun z => by
    rw [← Nat.mul_assoc, Nat.mul_comm i a, Nat.mul_mod, h, Nat.one_mul, Nat.mod_mod]
  rw [← hx x, ← hx y, Nat.mul_mod, e, ← Nat.mul_mod]
theorem hash_inj_n (n A B x y : Nat) (hn : fN = n + 1) (hA : A % 2305843009213693951 ≠ 0) (h : hashP A B x = hashP A B y) : x % 2305843009213693951 = y % 2305843009213693951 := by
  have hf := fermat A hA
  rw [hn, Nat.pow_succ, Nat.mul_comm] at hf
  refine cancel_mod 2305843009213693951 A (A ^ n) x y hf ?_
  unfold hashP at h
  generalize A * x = X at *
  generalize A * y = Y at *
  omega
theorem hash_inj (A B x y : Nat) (h0 : 0 < A) (hA : A < 2305843009213693951) (h : hashP A B x = hashP A B y) : x % 2305843009213693951 = y % 2305843009213693951 := by
  obtain ⟨n, hn⟩ : ∃ n, fN = n + 1 := ⟨2305843009213693949, rfl⟩
  exact hash_inj_n n A B x y hn (by omega) h
theorem hash_mod (A B x : Nat) : hashP A B (x % 2305843009213693951) = hashP A B x := by
  unfold hashP
  rw [Nat.add_mod, Nat.mul_mod_mod, ← Nat.add_mod]

/-- R has the unlike numbers modulo P of a list -/
def Unlike (R l : List Nat) : Prop := R.Nodup ∧ ∀ z, z ∈ R ↔ ∃ y ∈ l, y % 2305843009213693951 = z
theorem Unlike.nil : Unlike [] [] := ⟨List.nodup_nil, fun z => by simp⟩
theorem Unlike.add {R l : List Nat} {m : Nat} (hm : m < l.length) (h : Unlike R (l.take m)) (hn : ∀ y ∈ l.take m, y % 2305843009213693951 ≠ l[m] % 2305843009213693951) : Unlike (R ++ [l[m] % 2305843009213693951]) (l.take (m + 1)) := by
  refine ⟨List.nodup_append.2 ⟨h.1, by simp, fun a ha b hb => ?_⟩, fun z => ?_⟩
  · obtain ⟨y, hy, rfl⟩ := (h.2 a).1 ha
    rw [List.mem_singleton.1 hb]
    exact hn y hy
  · rw [List.take_succ_eq_append_getElem hm, List.mem_append, h.2 z, List.mem_singleton]
    constructor
    · rintro (⟨y, hy, e⟩ | e)
      · exact ⟨y, List.mem_append_left _ hy, e⟩
      · exact ⟨_, List.mem_append_right _ (List.mem_singleton.2 rfl), e.symm⟩
    · rintro ⟨y, hy, e⟩
      rcases List.mem_append.1 hy with g | g
      · exact .inl ⟨y, g, e⟩
      · rw [List.mem_singleton.1 g] at e
        exact .inr e.symm
theorem Unlike.old {R l : List Nat} {m : Nat} (hm : m < l.length) (h : Unlike R (l.take m)) (hn : ¬ ∀ y ∈ l.take m, y % 2305843009213693951 ≠ l[m] % 2305843009213693951) : Unlike R (l.take (m + 1)) := by
  have ⟨y0, hy0, e0⟩ : ∃ y ∈ l.take m, y % 2305843009213693951 = l[m] % 2305843009213693951 := by
    rcases Decidable.em (∃ y ∈ l.take m, y % 2305843009213693951 = l[m] % 2305843009213693951) with g | g
    · exact g
    · exact absurd (fun y hy e => g ⟨y, hy, e⟩) hn
  refine ⟨h.1, fun z => ?_⟩
  rw [List.take_succ_eq_append_getElem hm, h.2 z]
  constructor
  · rintro ⟨y, hy, e⟩
    exact ⟨y, List.mem_append_left _ hy, e⟩
  · rintro ⟨y, hy, e⟩
    rcases List.mem_append.1 hy with g | g
    · exact ⟨y, g, e⟩
    · rw [List.mem_singleton.1 g] at e
      exact ⟨y0, hy0, e0.trans e⟩

theorem nodup_map {f : Nat → Nat} : ∀ {R : List Nat}, R.Nodup → (∀ a ∈ R, ∀ b ∈ R, f a = f b → a = b) → (R.map f).Nodup
  | [], _, _ => List.nodup_nil
  | a :: R, h, hf => by
    obtain ⟨h1, h2⟩ := List.nodup_cons.1 h
    rw [List.map_cons]
    refine List.nodup_cons.2 ⟨fun hm => ?_, nodup_map h2 (fun a ha b hb => hf a (List.mem_cons_of_mem _ ha) b (List.mem_cons_of_mem _ hb))⟩
    obtain ⟨b, hb, e⟩ := List.mem_map.1 hm
    have := hf b (List.mem_cons_of_mem _ hb) a (List.mem_cons_self ..) e
    exact h1 (this ▸ hb)
/-- each copy has as many hashes as there are unlike numbers, but at most T -/
theorem few_len {t : Nat} {S : List (Nat × Nat)} {l R : List Nat} {V : SkV} (hS : GoodS t S) (h : OfSet t S (fun z => z ∈ l) V) (hR : Unlike R l) (j : Nat) (hj : j < V.L.length) : V.L[j].length = min t R.length := by
  have hjS : j < V.seeds.length := by rw [h.hs, ← h.hl]; exact hj
  have hsd := hS.seed (V.seeds[j]) (by rw [← h.hs]; exact List.getElem_mem hjS)
  have hh : ∀ x, V.hash j x = hashP V.seeds[j].1 V.seeds[j].2 x := fun x => by
    unfold SkV.hash
    rw [getD_at hjS]
  have hn : (R.map (V.hash j)).Nodup := nodup_map hR.1 fun a ha b hb e => by
    rw [hh, hh] at e
    have := hash_inj _ _ a b hsd.1 hsd.2.1 e
    obtain ⟨y, _, rfl⟩ := (hR.2 a).1 ha
    obtain ⟨z, _, rfl⟩ := (hR.2 b).1 hb
    rwa [Nat.mod_mod, Nat.mod_mod] at this
  have h1 := (h.least j hj).iff (S' := (· ∈ R.map (V.hash j))) fun y => by
    rw [List.mem_map]
    constructor
    · rintro ⟨r, hr, rfl⟩
      obtain ⟨x, hx, rfl⟩ := (hR.2 r).1 hr
      exact ⟨x, hx, by rw [hh, hh, hash_mod]⟩
    · rintro ⟨x, hx, rfl⟩
      exact ⟨x % 2305843009213693951, (hR.2 _).2 ⟨x, hx, rfl⟩, by rw [hh, hh, hash_mod]⟩
  have := least_len hn h1
  rwa [List.length_map] at this
/-- few numbers: each answer is how many there are -/
theorem few_answers {t : Nat} {S : List (Nat × Nat)} {l R : List Nat} {V : SkV} (hS : GoodS t S) (h : OfSet t S (fun z => z ∈ l) V) (hR : Unlike R l) (hn : R.length < t) : ∀ a ∈ V.answers, a = R.length := by
  intro a ha
  obtain ⟨c, hc, rfl⟩ := List.mem_map.1 ha
  obtain ⟨j, hj, rfl⟩ := List.getElem_of_mem hc
  have := few_len hS h hR j hj
  rw [Nat.min_eq_right (by omega)] at this
  unfold ansOf
  rw [this, h.ht, if_pos hn]
theorem mid_all {A : List Nat} {n : Nat} (h : ∀ a ∈ A, a = n) (h0 : 0 < A.length) : midOf A = n := by
  unfold midOf
  have hk : A.length / 2 < (sortI A).length := by rw [sortI_len]; omega
  rw [getD_at hk]
  have hm := List.getElem_mem hk
  unfold sortI at hm
  rw [List.mem_mergeSort] at hm
  obtain ⟨a, ha, e⟩ := List.mem_map.1 hm
  unfold sortI
  rw [← e, h a ha]
end Go.Proofs.Ytadlfmdliinnnaa
