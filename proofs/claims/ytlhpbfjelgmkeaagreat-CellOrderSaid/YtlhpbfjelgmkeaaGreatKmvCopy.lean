/- Contract of kmv's Copy: another sketch with the same. Conditions: a sketch that was made. -/
import Derived.Test.YtlhpbfjelgmkeaaGreatKmvCopies
set_option maxRecDepth 100000
namespace Go.Proofs.YtlhpbfjelgmkeaaGreat
open Go.RowKit Go.Maps Go.Sort

/-- the blocks of a copy -/
structure CopySk (w w' : World) (p : Nat) (V : SkV) (sb sc cb : Nat) (rows : List Value) : Prop where
  head : w'.heap[p]? = some (.cells #[.int .i64 V.t, .slice (some ⟨sb, 0, none⟩) V.seeds.length sc, .slice (some ⟨cb, 0, none⟩) V.L.length V.L.length] 197 (0, 0))
  seeds : SeedsIn w' ⟨sb, 0, none⟩ V.seeds
  slen : V.seeds.length ≤ sc
  smax : sc ≤ maxLen
  rws : RowsAt w' w.heap.size cb rows V.L
  hp : w.heap.size ≤ p
  hs : w.heap.size ≤ sb
  hsc : sb ≠ cb
  hsr : ∀ (j : Nat) v, rows[j]? = some v → v.ownBlock ≠ some sb
  hpr : ∀ (j : Nat) v, rows[j]? = some v → v.ownBlock ≠ some p
  hb : Below w.heap.size w w'
theorem CopySk.sk {w w' : World} {p : Nat} {V : SkV} {sb sc cb : Nat} {rows : List Value} (h : CopySk w w' p V sb sc cb rows) (hg : V.Good) (T : Tags) (i : Nat) :
    ∃ T', Next T w T' ∧ Sk p V T' i w' := by
  have hcp : cb ≠ p := fun e => by
    have h1 := h.head
    rw [← e, h.rws.tab] at h1
    simp at h1
  refine ⟨fun k => if k < w.heap.size then T k else if k = p ∨ k = sb then none else some i, fun k hk => if_pos hk, ⟨sb, 0, none⟩, sc, cb, rows, {
    head := h.head
    tp := by simp [Nat.not_lt.2 h.hp]
    seeds := h.seeds
    ts := by simp [Nat.not_lt.2 h.hs]
    slen := h.slen
    smax := h.smax
    tab := h.rws.tab
    tc := by simp [Nat.not_lt.2 h.rws.hg, hcp, h.hsc.symm]
    rlen := h.rws.len
    row := fun j v l hv hl => ownsRow_rebase (h.rws.row j v l hv hl) (fun _ _ => Nat.zero_le _)
    tr := fun j v g hv hx => ?_
    apart := h.rws.apart
    good := hg }⟩
  have hjl : j < V.L.length := by rw [← h.rws.len]; exact (List.getElem?_eq_some_iff.1 hv).1
  have h1 := ((h.rws.row j v _ hv (List.getElem?_eq_getElem hjl)).lt g hx).1
  have h2 : g ≠ p := fun e => h.hpr j v hv (e ▸ hx)
  have h3 : g ≠ sb := fun e => h.hsr j v hv (e ▸ hx)
  simp [Nat.not_lt.2 h1, h2, h3]

theorem copySk_of {w W w' : World} {V : SkV} {sb sc cb : Nat} {rows : List Value} (hb : Below w.heap.size w W) (hs : SeedsIn W ⟨sb, 0, none⟩ V.seeds) (hsl : sb < W.heap.size) (h1 : V.seeds.length ≤ sc) (h2 : sc ≤ maxLen) (hr : RowsAt W w.heap.size cb rows V.L) (h3 : w.heap.size ≤ sb) (h4 : sb ≠ cb)
    (h5 : ∀ (j : Nat) v, rows[j]? = some v → v.ownBlock ≠ some sb) (hw : w' = W.alloc (.cells #[.int .i64 V.t, .slice (some ⟨sb, 0, none⟩) V.seeds.length sc, .slice (some ⟨cb, 0, none⟩) V.L.length V.L.length] 197)) :
    CopySk w w' W.heap.size V sb sc cb rows := by
  subst hw
  have b2 := (Below.refl W.heap.size W).alloc (Nat.le_refl _) (.cells #[.int .i64 V.t, .slice (some ⟨sb, 0, none⟩) V.seeds.length sc, .slice (some ⟨cb, 0, none⟩) V.L.length V.L.length] 197)
  exact {
    head := heap_alloc_new W _
    seeds := hs.keep (b2.block _ hsl)
    slen := h1
    smax := h2
    rws := hr.below b2
    hp := hb.size
    hs := h3
    hsc := h4
    hsr := h5
    hpr := fun j v hv e => by
      have hjl : j < V.L.length := by rw [← hr.len]; exact (List.getElem?_eq_some_iff.1 hv).1
      have := ((hr.row j v _ hv (List.getElem?_eq_getElem hjl)).lt _ e).2
      omega
    hb := hb.trans (b2.mono hb.size) }
theorem RowsAt.rebase {w : World} {A B g : Nat} {rows : List Value} {L : List (List Nat)} (h : RowsAt w A g rows L) (hB : B ≤ A) : RowsAt w B g rows L :=
  ⟨h.tab, Nat.le_trans hB h.hg, h.len, fun j v l hv hl => ownsRow_rebase (h.row j v l hv hl) fun x hx => Nat.le_trans hB ((h.row j v l hv hl).lt x hx).1, h.apart⟩
theorem RowsAt.block_lt {w : World} {B g : Nat} {rows : List Value} {L : List (List Nat)} (h : RowsAt w B g rows L) {j : Nat} {v : Value} (hv : rows[j]? = some v) {x : Nat} (hx : v.ownBlock = some x) : B ≤ x ∧ x < w.heap.size := by
  have hjl : j < L.length := by rw [← h.len]; exact (List.getElem?_eq_some_iff.1 hv).1
  exact (h.row j v _ hv (List.getElem?_eq_getElem hjl)).lt x hx

section
variable {w w1 w5 : World} {p : Nat} {u v : Value}
theorem heldp_start (q0 : w.cell? ⟨p, 0, none⟩ = some u) (q1 : w.cell? ⟨p, 1, none⟩ = some v) :
    (w.cell? ⟨p, 0, none⟩ = some u ∧ w.cell? ⟨p, 1, none⟩ = some v ∧ Below w.heap.size w w) ∧ (w.drew.cell? ⟨p, 0, none⟩ = some u ∧ w.drew.cell? ⟨p, 1, none⟩ = some v ∧ Below w.heap.size w w.drew) :=
  ⟨⟨q0, q1, Below.refl _ _⟩, q0, q1, (Below.refl _ _).drew⟩
theorem heldp_below (hp : p < w.heap.size) (h : w1.cell? ⟨p, 0, none⟩ = some u ∧ w1.cell? ⟨p, 1, none⟩ = some v ∧ Below w.heap.size w w1) (hb : Below w1.heap.size w1 w5) : w5.cell? ⟨p, 0, none⟩ = some u ∧ w5.cell? ⟨p, 1, none⟩ = some v ∧ Below w.heap.size w w5 :=
  ⟨by rw [hb.cell (p := ⟨p, 0, none⟩) (Nat.lt_of_lt_of_le hp h.2.2.size)]; exact h.1, by rw [hb.cell (p := ⟨p, 1, none⟩) (Nat.lt_of_lt_of_le hp h.2.2.size)]; exact h.2.1, h.2.2.trans (hb.mono h.2.2.size)⟩
theorem heldp_base (h : w1.cell? ⟨p, 0, none⟩ = some u ∧ w1.cell? ⟨p, 1, none⟩ = some v ∧ Below w.heap.size w w1) : Below w.heap.size w w1 := h.2.2
theorem heldp_alloc (hp : p < w.heap.size) (o : Obj) (h : w1.cell? ⟨p, 0, none⟩ = some u ∧ w1.cell? ⟨p, 1, none⟩ = some v ∧ Below w.heap.size w w1) : (w1.alloc o).cell? ⟨p, 0, none⟩ = some u ∧ (w1.alloc o).cell? ⟨p, 1, none⟩ = some v ∧ Below w.heap.size w (w1.alloc o) :=
  heldp_below hp h ((Below.refl _ _).alloc (Nat.le_refl _) o)
end

theorem copy_a {w W0 w5 w6 : World} {V : SkV} {g c g6 : Nat} {rows : List Value} (b0 : Below w.heap.size w W0) (r1 : W0.heap.size ≤ g) (r2 : g < w5.heap.size) (r3 : V.seeds.length ≤ c) (r4 : c ≤ maxLen) (r5 : SeedsIn w5 ⟨g, 0, none⟩ V.seeds) (r6 : Below W0.heap.size W0 w5)
    (s1 : RowsAt w6 w5.heap.size g6 rows V.L) (s2 : Below w5.heap.size w5 w6) :
    CopySk w (w6.alloc (.cells #[.int .i64 V.t, .slice (some ⟨g, 0, none⟩) V.seeds.length c, .slice (some ⟨g6, 0, none⟩) V.L.length V.L.length] 197)) w6.heap.size V g c g6 rows := by
  have z0 := b0.size
  have z5 := r6.size
  have z6 := s2.size
  have zg := s1.hg
  exact copySk_of ((b0.trans (r6.mono z0)).trans (s2.mono (by omega))) (r5.keep (s2.block _ r2)) (by omega) r3 r4 (s1.rebase (by omega)) (by omega) (by omega) (fun j v hv e => by have := (s1.block_lt hv e).1; omega) rfl
theorem copy_b {w W0 w5 w6 : World} {V : SkV} {g c g6 : Nat} {rows : List Value} (b0 : Below w.heap.size w W0) (s1 : RowsAt w6 W0.heap.size g6 rows V.L) (s2 : Below W0.heap.size W0 w6)
    (r1 : w6.heap.size ≤ g) (r2 : g < w5.heap.size) (r3 : V.seeds.length ≤ c) (r4 : c ≤ maxLen) (r5 : SeedsIn w5 ⟨g, 0, none⟩ V.seeds) (r6 : Below w6.heap.size w6 w5) :
    CopySk w (w5.alloc (.cells #[.int .i64 V.t, .slice (some ⟨g, 0, none⟩) V.seeds.length c, .slice (some ⟨g6, 0, none⟩) V.L.length V.L.length] 197)) w5.heap.size V g c g6 rows := by
  have z0 := b0.size
  have z5 := r6.size
  have z6 := s2.size
  have zg := lt_of_heap s1.tab
  exact copySk_of ((b0.trans (s2.mono z0)).trans (r6.mono (by omega))) r5 r2 r3 r4 ((s1.below r6).rebase (by omega)) (by omega) (by omega) (fun j v hv e => by have := (s1.block_lt hv e).2; omega) rfl

end Go.Proofs.YtlhpbfjelgmkeaaGreat
