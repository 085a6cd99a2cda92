/- A file comes into a disk of vfs, or goes out of it: what that does to its map and to its list of files. Conditions: none. -/
import Derived.Test.YtddhhgbbeeeieaaVfsOper
set_option maxRecDepth 100000
namespace Go.Proofs.Ytddhhgbbeeeieaa
open Go.RowKit Go.Maps Go.Sort

def insL {α : Type} (x : List UInt8 × α) : List (List UInt8 × α) → List (List UInt8 × α)
  | [] => [x]
  | y :: r => if bytesBefore x.1 y.1 then x :: y :: r else y :: insL x r
def dropL {α : Type} (k : List UInt8) (L : List (List UInt8 × α)) : List (List UInt8 × α) := L.filter fun q => !(q.1 == k)
def putL {α : Type} (k : List UInt8) (f : α) (L : List (List UInt8 × α)) : List (List UInt8 × α) := insL (k, f) (dropL k L)

theorem insL_perm {α : Type} (x : List UInt8 × α) : ∀ L, (insL x L).Perm (x :: L)
  | [] => List.Perm.refl _
  | y :: r => by
    unfold insL
    split
    · exact List.Perm.refl _
    · exact ((insL_perm x r).cons y).trans (List.Perm.swap x y r)
theorem mem_putL {α : Type} {k : List UInt8} {f : α} {L : List (List UInt8 × α)} {z : List UInt8 × α} : z ∈ putL k f L ↔ z = (k, f) ∨ (z ∈ L ∧ z.1 ≠ k) := by
  unfold putL dropL
  rw [(insL_perm _ _).mem_iff, List.mem_cons, List.mem_filter]
  simp
theorem mem_dropL {α : Type} {k : List UInt8} {L : List (List UInt8 × α)} {z : List UInt8 × α} : z ∈ dropL k L ↔ z ∈ L ∧ z.1 ≠ k := by
  unfold dropL
  rw [List.mem_filter]
  simp
theorem map_insL (k : List UInt8) (f : FileC) : ∀ L : List (List UInt8 × FileC), (insL (k, f) L).map (fun p => (Lit.string p.1, ptrD p.2)) = DataW.insert (.string k, ptrD f) (L.map fun p => (Lit.string p.1, ptrD p.2))
  | [] => rfl
  | y :: r => by
    simp only [insL, List.map_cons, DataW.insert, Lit.before]
    split
    · rename_i hb; simp [hb]
    · rename_i hb; simp [hb, map_insL k f r]
theorem map_dropL (k : List UInt8) (L : List (List UInt8 × FileC)) : (dropL k L).map (fun p => (Lit.string p.1, ptrD p.2)) = (L.map fun p => (Lit.string p.1, ptrD p.2)).filter fun p => !p.1.sameKey (.string k) := by
  unfold dropL
  rw [List.filter_map]
  rfl
theorem mapD_put (k : List UInt8) (f : FileC) (L : List (List UInt8 × FileC)) : (mapD L).put (.string k) (ptrD f) = mapD (putL k f L) := by
  unfold mapD DataW.put putL
  simp only [map_insL, map_dropL]
theorem mapD_del (k : List UInt8) (L : List (List UInt8 × FileC)) : (mapD L).del (.string k) = mapD (dropL k L) := by
  unfold mapD DataW.del
  simp only [map_dropL]
theorem has_mapD (L : List (List UInt8 × FileC)) (k : List UInt8) : Maps.has (mapD L) (.string k) = (fileOf L k).isSome := by
  unfold fileOf mapD
  rw [Maps.has_eq]
  induction L with
  | nil => rfl
  | cons q r ih =>
    simp only [List.map_cons, List.any_cons, List.find?_cons, Lit.sameKey] at ih ⊢
    by_cases h : q.1 == k
    · simp [h]
    · simp only [h, Bool.false_or]
      exact ih
theorem size_mapD (L : List (List UInt8 × FileC)) : Maps.size (mapD L) = L.length := by simp [mapD, Maps.size]

theorem sorted_of_owns {w : World} {b n : Nat} {L : List (List UInt8 × FileC)} (h : w.ownsMap Try.prog 9 ptrR b n (mapD L)) : L.Pairwise (fun a b => bytesBefore a.1 b.1 = true) := by
  obtain ⟨es, he, hp, _⟩ := h.canon (string_keyed Try.underlying9)
  unfold mapD at he
  simp only [DataW.map.injEq] at he
  rw [← he] at hp
  exact (List.pairwise_map.1 hp).imp fun h => by simpa [Lit.before] using h

section
variable {w w' : World} {p : Nat} {T T' : Nat → Option (Nat × Nat)} {D : DV}

theorem DiskAt.putFile (h : DiskAt w p T D) {k : List UInt8} {f : FileC} {n : Nat} (hm : w'.ownsMap Try.prog 9 ptrR D.mb n ((mapD D.files).put (.string k) (ptrD f))) (hat : f.At w') (hg : goodL k = true) (hroom : (fileOf D.files k).isSome = true ∨ D.files.length < 64)
    (hT : ∀ k, T k ≠ none → T' k = T k) (hb : T' f.blk = some (2, 0)) (hown : ∀ b, f.sl.ownBlock = some b → T' b = some (3, f.blk)) (hbd : ∀ k, T' k ≠ none → k < w'.heap.size)
    (hne : ∀ k' g, (k', g) ∈ D.files → k' ≠ k → g.blk ≠ f.blk)
    (hk : ∀ x, T x ≠ none → x ≠ D.mb → w'.heap[x]? = w.heap[x]?) : DiskAt w' p T' { D with files := putL k f D.files } := by
  rw [mapD_put] at hm
  have same : ∀ {x y}, T x = some y → y ≠ (1, 0) → w'.heap[x]? = w.heap[x]? := fun {x y} hx hy => hk x (by rw [hx]; simp) (fun e => by rw [e, h.tm] at hx; simp at hx; exact hy hx.symm)
  have hlen : (putL k f D.files).length ≤ 64 := by
    rw [← size_mapD, ← mapD_put, Maps.size_put (h.map.tidy (string_keyed Try.underlying9)), has_mapD, size_mapD]
    have := h.room
    rcases hroom with g | g
    · rw [g]; simp; omega
    · split <;> omega
  refine { disk := (same h.tp (by simp)).trans h.disk, map := ?_, files := ?_, keep := ?_, sorted := sorted_of_owns hm, blks := ?_, good := ?_, room := hlen, tp := ?_, tm := ?_, tf := ?_, ts := ?_, tk := ?_, bound := hbd }
  · have := ownsMap_tight hm
    rw [size_mapD] at this
    exact this
  · intro k' g hg'
    rcases mem_putL.1 hg' with e | ⟨e, _⟩
    · cases e; exact hat
    · have hF := h.files k' g e
      exact ⟨(same (h.tf k' g e) (by simp)).trans hF.blk, ownsRow_of_block hF.row (fun b hb => same (h.ts k' g b e hb) (by simp)), hF.sync, hF.max⟩
  · exact ownsRow_of_block h.keep (fun b hb => same (h.tk b hb) (by simp))
  · have hp : (putL k f D.files).Perm ((k, f) :: dropL k D.files) := insL_perm _ _
    refine (hp.pairwise_iff (fun {a b} (hab : a.2.blk ≠ b.2.blk) e => hab e.symm)).2 ?_
    refine List.pairwise_cons.2 ⟨fun q hq e => ?_, h.blks.sublist List.filter_sublist⟩
    obtain ⟨q1, q2⟩ := mem_dropL.1 hq
    exact hne q.1 q.2 q1 q2 e.symm
  · intro k' g hg'
    rcases mem_putL.1 hg' with e | ⟨e, _⟩
    · cases e; exact hg
    · exact h.good k' g e
  · rw [hT p (by rw [h.tp]; simp)]; exact h.tp
  · show T' D.mb = _
    rw [hT _ (by rw [h.tm]; simp)]; exact h.tm
  · intro k' g hg'
    rcases mem_putL.1 hg' with e | ⟨e, _⟩
    · cases e; exact hb
    · have := h.tf k' g e
      rw [hT _ (by rw [this]; simp)]; exact this
  · intro k' g b hg' hb'
    rcases mem_putL.1 hg' with e | ⟨e, _⟩
    · cases e; exact hown b hb'
    · have := h.ts k' g b e hb'
      rw [hT _ (by rw [this]; simp)]; exact this
  · intro b hb'
    have := h.tk b hb'
    rw [hT _ (by rw [this]; simp)]; exact this

theorem DiskAt.dropFile (h : DiskAt w p T D) {k : List UInt8} {n : Nat} (hm : w'.ownsMap Try.prog 9 ptrR D.mb n ((mapD D.files).del (.string k))) (hs : w.heap.size ≤ w'.heap.size)
    (hk : ∀ x, T x ≠ none → x ≠ D.mb → w'.heap[x]? = w.heap[x]?) : DiskAt w' p T { D with files := dropL k D.files } := by
  rw [mapD_del] at hm
  have same : ∀ {x y}, T x = some y → y ≠ (1, 0) → w'.heap[x]? = w.heap[x]? := fun {x y} hx hy => hk x (by rw [hx]; simp) (fun e => by rw [e, h.tm] at hx; simp at hx; exact hy hx.symm)
  refine { disk := (same h.tp (by simp)).trans h.disk, map := ?_, files := ?_, keep := ?_, sorted := sorted_of_owns hm, blks := h.blks.sublist List.filter_sublist, good := ?_, room := Nat.le_trans (List.length_filter_le _ _) h.room, tp := h.tp, tm := h.tm, tf := ?_, ts := ?_, tk := h.tk, bound := fun x hx => Nat.lt_of_lt_of_le (h.bound x hx) hs }
  · have := ownsMap_tight hm
    rw [size_mapD] at this
    exact this
  · intro k' g hg'
    have e := (mem_dropL.1 hg').1
    have hF := h.files k' g e
    exact ⟨(same (h.tf k' g e) (by simp)).trans hF.blk, ownsRow_of_block hF.row (fun b hb => same (h.ts k' g b e hb) (by simp)), hF.sync, hF.max⟩
  · exact ownsRow_of_block h.keep (fun b hb => same (h.tk b hb) (by simp))
  · exact fun k' g hg' => h.good k' g (mem_dropL.1 hg').1
  · exact fun k' g hg' => h.tf k' g (mem_dropL.1 hg').1
  · exact fun k' g b hg' hb => h.ts k' g b (mem_dropL.1 hg').1 hb
end
end Go.Proofs.Ytddhhgbbeeeieaa
