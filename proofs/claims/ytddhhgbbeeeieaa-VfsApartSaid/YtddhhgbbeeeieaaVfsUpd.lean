/- How a disk of vfs changes in memory: a file is written, the disk's own fields are written, a file comes, a file goes. Conditions: none. -/
import Derived.Test.YtddhhgbbeeeieaaVfsWalkC
set_option maxRecDepth 100000
namespace Go.Proofs.Ytddhhgbbeeeieaa
open Go.RowKit Go.Maps Go.Sort

theorem map_set_same {α β : Type} (g : α → β) {L : List α} {i : Nat} {x y : α} (h : L[i]? = some x) (hg : g y = g x) : (L.set i y).map g = L.map g := by
  apply List.ext_getElem?
  intro j
  simp only [List.getElem?_map, List.getElem?_set]
  by_cases hij : i = j
  · subst hij
    obtain ⟨hl, hv⟩ := List.getElem?_eq_some_iff.1 h
    rw [if_pos rfl, if_pos hl, h]
    simp [hg]
  · simp [hij]

theorem mem_set_cases {α : Type} {L : List α} {i : Nat} {y z : α} (h : z ∈ L.set i y) : z = y ∨ ∃ j, j ≠ i ∧ L[j]? = some z := by
  obtain ⟨j, hj⟩ := List.mem_iff_getElem?.1 h
  rw [List.getElem?_set] at hj
  by_cases hij : i = j
  · subst hij
    by_cases hl : i < L.length
    · simp [hl] at hj; exact .inl hj.symm
    · simp [hl] at hj
  · rw [if_neg hij] at hj
    exact .inr ⟨j, fun e => hij e.symm, hj⟩

theorem pairwise_at {α : Type} {R : α → α → Prop} (hsym : ∀ a b, R a b → R b a) {L : List α} (h : L.Pairwise R) {i j : Nat} {x y : α} (hij : i ≠ j) (hi : L[i]? = some x) (hj : L[j]? = some y) : R x y := by
  obtain ⟨hi1, rfl⟩ := List.getElem?_eq_some_iff.1 hi
  obtain ⟨hj1, rfl⟩ := List.getElem?_eq_some_iff.1 hj
  rw [List.pairwise_iff_getElem] at h
  rcases Nat.lt_or_gt_of_ne hij with g | g
  · exact h i j hi1 hj1 g
  · exact hsym _ _ (h j i hj1 hi1 g)

section
variable {w w' : World} {p : Nat} {T T' : Nat → Option (Nat × Nat)} {D : DV}

/-- one file is written in its place -/
theorem DiskAt.setAt (h : DiskAt w p T D) {i : Nat} {name : List UInt8} {f f' : FileC} (hi : D.files[i]? = some (name, f)) (hblk : f'.blk = f.blk) (hat : f'.At w')
    (hT : ∀ k, T k ≠ none → T' k = T k) (hown : ∀ b, f'.sl.ownBlock = some b → T' b = some (3, f.blk)) (hbd : ∀ k, T' k ≠ none → k < w'.heap.size)
    (hk : ∀ k, T k ≠ none → k ≠ f.blk → T k ≠ some (3, f.blk) → w'.heap[k]? = w.heap[k]?) : DiskAt w' p T' { D with files := D.files.set i (name, f') } := by
  have hmem : (name, f) ∈ D.files := List.mem_iff_getElem?.2 ⟨i, hi⟩
  have htf := h.tf _ _ hmem
  have other : ∀ j q, j ≠ i → D.files[j]? = some q → q.2.blk ≠ f.blk := fun j q hj hq => by
    have := pairwise_at (R := fun a b : List UInt8 × FileC => a.2.blk ≠ b.2.blk) (fun a b hab e => hab e.symm) h.blks hj hq hi
    exact this
  have same : ∀ {k x}, T k = some x → x ≠ (3, f.blk) → k ≠ f.blk → w'.heap[k]? = w.heap[k]? := fun {k x} hx hne hb => hk k (by rw [hx]; simp) hb (by rw [hx]; simpa using hne)
  have hpf : p ≠ f.blk := fun e => by have := h.tp; rw [e, htf] at this; simp at this
  have hmf : D.mb ≠ f.blk := fun e => by have := h.tm; rw [e, htf] at this; simp at this
  refine { disk := ?_, map := ?_, files := ?_, keep := ?_, sorted := ?_, blks := ?_, good := ?_, room := ?_, tp := ?_, tm := ?_, tf := ?_, ts := ?_, tk := ?_, bound := hbd }
  · exact (same h.tp (by simp) hpf).trans h.disk
  · have e1 : mapD (D.files.set i (name, f')) = mapD D.files := by
      unfold mapD
      rw [map_set_same (fun q : List UInt8 × FileC => (Lit.string q.1, ptrD q.2)) hi (by simp [ptrD, hblk])]
    have e2 : (D.files.set i (name, f')).length = D.files.length := by simp
    simp only [e1, e2]
    exact ownsMap_of_block h.map (same h.tm (by simp) hmf)
  · intro k g hg
    rcases mem_set_cases hg with e | ⟨j, hj, hq⟩
    · cases e; exact hat
    · have hm : (k, g) ∈ D.files := List.mem_iff_getElem?.2 ⟨j, hq⟩
      have hb := other j _ hj hq
      have hF := h.files k g hm
      refine ⟨(same (h.tf k g hm) (by simp) hb).trans hF.blk, ownsRow_of_block hF.row (fun b hbo => ?_), hF.sync, hF.max⟩
      have ht := h.ts k g b hm hbo
      exact same ht (by simpa using hb) (fun e => by rw [e, htf] at ht; simp at ht)
  · exact ownsRow_of_block h.keep (fun b hb => same (h.tk b hb) (by simp) (fun e => by have := h.tk b hb; rw [e, htf] at this; simp at this))
  · have : (D.files.map fun q => q.1).Pairwise (fun a b => bytesBefore a b = true) := List.pairwise_map.2 h.sorted
    rw [← map_set_same (fun q : List UInt8 × FileC => q.1) (y := (name, f')) hi rfl] at this
    exact List.pairwise_map.1 this
  · have : (D.files.map fun q => q.2.blk).Pairwise (fun a b => a ≠ b) := List.pairwise_map.2 h.blks
    rw [← map_set_same (fun q : List UInt8 × FileC => q.2.blk) (y := (name, f')) hi hblk] at this
    exact List.pairwise_map.1 this
  · intro k g hg
    rcases mem_set_cases hg with e | ⟨j, hj, hq⟩
    · cases e; exact h.good _ _ hmem
    · exact h.good k g (List.mem_iff_getElem?.2 ⟨j, hq⟩)
  · simpa using h.room
  · rw [hT p (by rw [h.tp]; simp)]; exact h.tp
  · show T' D.mb = _
    rw [hT _ (by rw [h.tm]; simp)]; exact h.tm
  · intro k g hg
    rcases mem_set_cases hg with e | ⟨j, hj, hq⟩
    · cases e
      rw [hblk, hT _ (by rw [htf]; simp)]; exact htf
    · have := h.tf k g (List.mem_iff_getElem?.2 ⟨j, hq⟩)
      rw [hT _ (by rw [this]; simp)]; exact this
  · intro k g b hg hb
    rcases mem_set_cases hg with e | ⟨j, hj, hq⟩
    · cases e
      rw [hblk]; exact hown b hb
    · have := h.ts k g b (List.mem_iff_getElem?.2 ⟨j, hq⟩) hb
      rw [hT _ (by rw [this]; simp)]; exact this
  · intro b hb
    have := h.tk b hb
    rw [hT _ (by rw [this]; simp)]; exact this

/-- the disk's own fields are written -/
theorem DiskAt.setOwn (h : DiskAt w p T D) {on : Bool} {ops left : Int} {ks : Value} {keep : List Int}
    (hd : w'.heap[p]? = some (.cells #[.map (some D.mb), .bool on, .int .i64 ops, .int .i64 left, ks] 52 (0, 0)))
    (hkeep : w'.ownsRow 0 3 1 ks keep.length (i64s keep)) (hT : ∀ k, T k ≠ none → T' k = T k) (hown : ∀ b, ks.ownBlock = some b → T' b = some (4, 0)) (hbd : ∀ k, T' k ≠ none → k < w'.heap.size)
    (hk : ∀ k, T k ≠ none → k ≠ p → T k ≠ some (4, 0) → w'.heap[k]? = w.heap[k]?) : DiskAt w' p T' { D with on := on, ops := ops, left := left, ks := ks, keep := keep } := by
  have same : ∀ {k x}, T k = some x → x ≠ (4, 0) → x ≠ (0, 0) → w'.heap[k]? = w.heap[k]? := fun {k x} hx h1 h2 => hk k (by rw [hx]; simp) (fun e => by rw [e, h.tp] at hx; simp at hx; exact h2 hx.symm) (by rw [hx]; simpa using h1)
  refine { disk := hd, map := ?_, files := ?_, keep := hkeep, sorted := h.sorted, blks := h.blks, good := h.good, room := h.room, tp := ?_, tm := ?_, tf := ?_, ts := ?_, tk := hown, bound := hbd }
  · exact ownsMap_of_block h.map (same h.tm (by simp) (by simp))
  · intro k g hg
    have hF := h.files k g hg
    exact ⟨(same (h.tf k g hg) (by simp) (by simp)).trans hF.blk, ownsRow_of_block hF.row (fun b hb => same (h.ts k g b hg hb) (by simp) (by simp)), hF.sync, hF.max⟩
  · rw [hT p (by rw [h.tp]; simp)]; exact h.tp
  · show T' D.mb = _
    rw [hT _ (by rw [h.tm]; simp)]; exact h.tm
  · intro k g hg
    have := h.tf k g hg
    rw [hT _ (by rw [this]; simp)]; exact this
  · intro k g b hg hb
    have := h.ts k g b hg hb
    rw [hT _ (by rw [this]; simp)]; exact this
end

theorem heap_setCell_same {w : World} {g j : Nat} {cs : Array Value} {t : TypeId} {fr : Nat × Nat} (h : w.heap[g]? = some (.cells cs t fr)) (v : Value) : (w.setCell ⟨g, j, none⟩ v).heap[g]? = some (.cells (cs.setIfInBounds j v) t fr) := by
  simp [World.setCell, Array.getElem?_modify, h]

/-- a slice cut to its first n elements -/
def resl : Value → Nat → Value
  | .slice a _ cap, n => .slice a n cap
  | v, _ => v
theorem resl_own (v : Value) (n : Nat) : (resl v n).ownBlock = v.ownBlock := by
  cases v <;> try rfl
  rename_i a _ _
  cases a <;> rfl
theorem ownsRow_resl {w : World} {base : Nat} {e : TypeId} {v : Value} {n m : Nat} {xs : List Value} (h : w.ownsRow base e 1 v n xs) (hm : m ≤ n) : w.ownsRow base e 1 (resl v m) m (xs.take m) := by
  obtain ⟨h1, h2⟩ := h
  refine ⟨by rw [List.length_take, h1]; omega, ?_⟩
  rcases h2 with ⟨rfl, rfl⟩ | ⟨g, cap, cur, rfl, hb, hg, a1, a2, a3, a4⟩
  · have : m = 0 := by omega
    subst this
    exact .inl ⟨rfl, rfl⟩
  · refine .inr ⟨g, cap, cur, rfl, hb, hg, by omega, a2, a3, ?_⟩
    rw [← a4, List.take_take]
    congr 1
    omega
theorem u8s_take (l : List UInt8) (n : Nat) : (u8s l).take n = u8s (l.take n) := by simp [u8s, List.map_take]

/-- how many bytes of file i stay -/
def failN (keep : List Int) (i : Nat) (f : FileC) : Nat := f.synced + (stayN keep i ((f.bytes.length : Int) - f.synced)).toNat
def failF (keep : List Int) (i : Nat) (f : FileC) : FileC := { f with sl := resl f.sl (failN keep i f), bytes := f.bytes.take (failN keep i f), synced := failN keep i f }
theorem stayN_range (keep : List Int) (i : Nat) (pend : Int) (h : 0 ≤ pend) : 0 ≤ stayN keep i pend ∧ stayN keep i pend ≤ pend := by
  unfold stayN
  by_cases hz : keep.length = 0
  · rw [if_pos hz]; omega
  · rw [if_neg hz]; omega
theorem failN_le {keep : List Int} {i : Nat} {f : FileC} (h : f.synced ≤ f.bytes.length) : failN keep i f ≤ f.bytes.length := by
  have := stayN_range keep i ((f.bytes.length : Int) - f.synced) (by omega)
  unfold failN; omega
theorem failF_at {w w' : World} {keep : List Int} {i : Nat} {f : FileC} (h : f.At w) (hb : w'.heap[f.blk]? = some (.cells #[resl f.sl (failN keep i f), .int .i64 (failN keep i f : Int)] 80 (0, 0)))
    (ho : ∀ g, f.sl.ownBlock = some g → w'.heap[g]? = w.heap[g]?) : (failF keep i f).At w' := by
  have hn := failN_le (keep := keep) (i := i) h.sync
  have hl : (f.bytes.take (failN keep i f)).length = failN keep i f := by rw [List.length_take]; omega
  refine ⟨hb, ?_, ?_, ?_⟩
  · show w'.ownsRow 0 _ 1 (resl f.sl (failN keep i f)) (f.bytes.take (failN keep i f)).length (u8s (f.bytes.take (failN keep i f)))
    rw [hl, ← u8s_take]
    exact ownsRow_resl (ownsRow_of_block h.row ho) hn
  · show failN keep i f ≤ (f.bytes.take (failN keep i f)).length
    omega
  · show (f.bytes.take (failN keep i f)).length ≤ _
    have := h.max
    omega

/-- the files behind a failure, the first k of them done -/
def failK (keep : List Int) (L : List (List UInt8 × FileC)) (k : Nat) : List (List UInt8 × FileC) := L.mapIdx fun i q => if i < k then (q.1, failF keep i q.2) else q
theorem failK_zero (keep : List Int) (L : List (List UInt8 × FileC)) : failK keep L 0 = L := by
  apply List.ext_getElem?; intro j; simp [failK]
theorem failK_succ {keep : List Int} {L : List (List UInt8 × FileC)} {k : Nat} {name : List UInt8} {f : FileC} (h : L[k]? = some (name, f)) : failK keep L (k + 1) = (failK keep L k).set k (name, failF keep k f) := by
  apply List.ext_getElem?; intro j
  have hl : k < L.length := (List.getElem?_eq_some_iff.1 h).1
  simp only [failK, List.getElem?_mapIdx, List.getElem?_set, List.length_mapIdx]
  by_cases hjk : k = j
  · subst hjk
    rw [if_pos rfl, if_pos hl, h]
    simp
  · simp only [hjk, if_false]
    cases hL : L[j]? with
    | none => rfl
    | some q =>
      simp only [Option.map_some]
      by_cases h1 : j < k
      · rw [if_pos h1, if_pos (by omega)]
      · rw [if_neg h1, if_neg (by omega)]
theorem failK_at {keep : List Int} {L : List (List UInt8 × FileC)} {k : Nat} {q : List UInt8 × FileC} (h : L[k]? = some q) : (failK keep L k)[k]? = some q := by
  simp [failK, List.getElem?_mapIdx, h]
theorem failK_len (keep : List Int) (L : List (List UInt8 × FileC)) (k : Nat) : (failK keep L k).length = L.length := by simp [failK]
theorem failK_names (keep : List Int) (L : List (List UInt8 × FileC)) (k : Nat) : (failK keep L k).map (·.1) = L.map (·.1) := by
  apply List.ext_getElem?; intro j
  simp only [failK, List.getElem?_map, List.getElem?_mapIdx]
  cases L[j]? with
  | none => rfl
  | some q => simp only [Option.map_some]; split <;> rfl

theorem fileOf_at {L : List (List UInt8 × FileC)} (hs : L.Pairwise (fun a b => bytesBefore a.1 b.1 = true)) {k : Nat} {name : List UInt8} {f : FileC} (h : L[k]? = some (name, f)) : fileOf L name = some f := by
  unfold fileOf
  have : L.find? (fun q => q.1 == name) = some (name, f) := by
    rw [List.find?_eq_some_iff_getElem]
    obtain ⟨hl, hv⟩ := List.getElem?_eq_some_iff.1 h
    refine ⟨by simp, k, hl, hv, fun j hj => ?_⟩
    have hp := List.pairwise_iff_getElem.1 hs j k (by omega) hl hj
    rw [hv] at hp
    simp only [Bool.not_eq_true', beq_eq_false_iff_ne, ne_eq]
    intro e
    rw [e, WideAt.bytes_irrefl] at hp
    cases hp
  rw [this]; rfl
end Go.Proofs.Ytddhhgbbeeeieaa
