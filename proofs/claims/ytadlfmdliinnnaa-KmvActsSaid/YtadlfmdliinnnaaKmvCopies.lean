/- Contracts of kmv's Copies and Copy. Conditions: a sketch that was made. -/
import Derived.Test.YtadlfmdliinnnaaKmvAns
set_option maxRecDepth 100000
namespace Go.Proofs.Ytadlfmdliinnnaa
open Go.RowKit Go.Maps Go.Sort

/-- a row of rows of numbers, all of the call's own -/
structure RowsAt (w : World) (B g : Nat) (rows : List Value) (L : List (List Nat)) : Prop where
  tab : w.heap[g]? = some (.cells rows.toArray 43 (0, 0))
  hg : B ≤ g
  len : rows.length = L.length
  row : ∀ (j : Nat) v l, rows[j]? = some v → L[j]? = some l → w.ownsRow B 32 1 v l.length (nats l)
  apart : ∀ (j j' : Nat) v v' g, rows[j]? = some v → rows[j']? = some v' → v.ownBlock = some g → v'.ownBlock = some g → j = j'

theorem set_cases {α : Type} {l : List α} {j k : Nat} {x y : α} (h : (l.set j x)[k]? = some y) : (k = j ∧ y = x) ∨ (k ≠ j ∧ l[k]? = some y) := by
  rw [List.getElem?_set] at h
  split at h
  · rename_i e
    split at h
    · exact .inl ⟨e.symm, (Option.some.inj h).symm⟩
    · cases h
  · rename_i e
    exact .inr ⟨fun e' => e e'.symm, h⟩
theorem row_ne_tab {w : World} {B g : Nat} {v : Value} {n : Nat} {xs : List Value} {rows : List Value} (h : w.ownsRow B 32 1 v n xs) (ht : w.heap[g]? = some (.cells rows.toArray 43 (0, 0))) : v.ownBlock ≠ some g := by
  intro e
  rcases h.2 with ⟨rfl, _⟩ | ⟨g', cap, cur, rfl, _, hgg, _⟩
  · simp [Value.ownBlock] at e
  · simp [Value.ownBlock] at e
    rw [e, ht] at hgg
    simp at hgg
theorem RowsAt.below {w w' : World} {B g : Nat} {rows : List Value} {L : List (List Nat)} (h : RowsAt w B g rows L) (hb : Below w.heap.size w w') : RowsAt w' B g rows L where
  tab := (hb.block g (lt_of_heap h.tab)).trans h.tab
  hg := h.hg
  len := h.len
  row := fun j v l hv hl => ownsRow_below (h.row j v l hv hl) hb
  apart := h.apart
theorem RowsAt.put {w w1 : World} {B g j : Nat} {rows : List Value} {L : List (List Nat)} {v : Value} {l : List Nat} (h : RowsAt w B g rows L) (hb : Below w.heap.size w w1) (hB : B ≤ w.heap.size)
    (hv : w1.ownsRow w.heap.size 32 1 v l.length (nats l)) : RowsAt (w1.setCell ⟨g, j, none⟩ v) B g (rows.set j v) (L.set j l) := by
  have h1 := h.below hb
  have hlt := lt_of_heap h.tab
  have hh : ∀ k, k ≠ g → (w1.setCell ⟨g, j, none⟩ v).heap[k]? = w1.heap[k]? := fun k hk => Below.heap_setCell _ _ _ _ (by simpa using hk)
  have hlo : ∀ (k : Nat) u x, rows[k]? = some u → u.ownBlock = some x → x < w.heap.size := fun k u x hu hx => by
    have hk : k < L.length := by rw [← h.len]; exact (List.getElem?_eq_some_iff.1 hu).1
    exact ((h.row k u _ hu (List.getElem?_eq_getElem hk)).lt x hx).2
  refine ⟨?_, h.hg, by rw [List.length_set, List.length_set]; exact h.len, fun k u m hu hm => ?_, fun k k' u u' x hu hu' hx hx' => ?_⟩
  · rw [heap_set h1.tab]; simp
  · rcases set_cases hu with ⟨rfl, rfl⟩ | ⟨hne, hu⟩
    · rcases set_cases hm with ⟨_, rfl⟩ | ⟨hne, _⟩
      · exact ownsRow_rebase (ownsRow_of_block hv fun x hx => hh x (fun e => row_ne_tab hv h1.tab (e ▸ hx))) (fun x hx => Nat.le_trans hB (hv.lt x hx).1)
      · exact absurd rfl hne
    · rcases set_cases hm with ⟨e, _⟩ | ⟨_, hm⟩
      · exact absurd e hne
      · have h2 := h1.row k u m hu hm
        exact ownsRow_of_block h2 fun x hx => hh x (fun e => row_ne_tab h2 h1.tab (e ▸ hx))
  · rcases set_cases hu with ⟨rfl, rfl⟩ | ⟨_, hu1⟩
    · rcases set_cases hu' with ⟨rfl, rfl⟩ | ⟨_, hu2⟩
      · rfl
      · have a := (hv.lt x hx).1
        have b := hlo k' u' x hu2 hx'
        omega
    · rcases set_cases hu' with ⟨rfl, rfl⟩ | ⟨_, hu2⟩
      · have a := (hv.lt x hx').1
        have b := hlo k u x hu1 hx
        omega
      · exact h.apart k k' u u' x hu1 hu2 hx hx'
theorem RowsAt.made (w : World) (n : Nat) : RowsAt (w.alloc (.cells (nilRows n).toArray 43)) w.heap.size w.heap.size (nilRows n) (List.replicate n []) := by
  have hnil : ∀ (j : Nat) v, (nilRows n)[j]? = some v → v = .slice none 0 0 := fun j v hv => by
    rw [nilRows, List.getElem?_replicate] at hv
    split at hv
    · exact (Option.some.inj hv).symm
    · cases hv
  refine ⟨heap_alloc_new w _, Nat.le_refl _, by simp [nilRows], fun j v l hv hl => ?_, fun j j' v v' g hv _ hg _ => ?_⟩
  · rw [hnil j v hv]
    rw [List.getElem?_replicate] at hl
    split at hl
    · rw [← Option.some.inj hl]; exact World.ownsRow_nil _ _ _ _
    · cases hl
  · rw [hnil j v hv] at hg
    simp [Value.ownBlock] at hg

/-- the copies behind m rounds -/
def copPart (L : List (List Nat)) (m : Nat) : List (List Nat) := L.take m ++ List.replicate (L.length - m) []
theorem copPart_next (A : List (List Nat)) (m : Nat) (h : m < A.length) : (copPart A m).set m A[m] = copPart A (m + 1) := by
  unfold copPart
  rw [List.set_append_right _ _ (by simp; omega), List.length_take, Nat.min_eq_left (by omega), Nat.sub_self, show A.length - m = (A.length - (m + 1)) + 1 by omega, List.replicate_succ, List.set_cons_zero, List.take_succ_eq_append_getElem h, List.append_assoc]
  rfl
theorem copPart_len (A : List (List Nat)) (m : Nat) (h : m ≤ A.length) : (copPart A m).length = A.length := by simp [copPart]; omega

/-- a new row of copies of the copies -/
def CopAt (w : World) (L : List (List Nat)) (e : Ending) (w' : World) : Prop :=
  ∃ g rows, e = .returned (.slice (some ⟨g, 0, none⟩) L.length L.length) ∧ RowsAt w' w.heap.size g rows L ∧ Below w.heap.size w w'

set_option maxHeartbeats 1600000 in
theorem copies_any {T : Tags} {i : Nat} {w : World} {p : Nat} {V : SkV} (h : Sk p V T i w) :
    Calls Try.prog 24 #[.pointer (some ⟨p, 0, none⟩)] w (CopAt w V.L) := by
  obtain ⟨sa, sc, cb, rows, g⟩ := h
  obtain ⟨c0, c1, c2⟩ := g.cells
  have hset := g.good.set
  have hlen := g.good.len
  have hn7 : V.L.length ≤ 7 := by rw [hlen]; exact hset.n7
  have KM := made_yes c0 hset.t2
  have hmk := fun W => mk_rows W V.L.length (by omega)
  have HI : Hid (∃ rows, RowsAt (w.alloc (.cells (nilRows V.L.length).toArray 43)) w.heap.size w.heap.size rows (copPart V.L 0) ∧ Below w.heap.size w (w.alloc (.cells (nilRows V.L.length).toArray 43))) :=
    Lib.hid ⟨_, by simpa [copPart] using RowsAt.made w V.L.length, (Below.refl w.heap.size w).alloc (Nat.le_refl _) _⟩
  have HG := Lib.hid g
  clear g
  unfold CopAt
  generalize hN : V.L.length = N at *
  have HN := Lib.hid hN
  clear hN hlen
  go_enter Try.func24, Try.ntmps24
  go_wp2_with fail
  refine KM.mono ?_
  rintro e w' ⟨rfl, rfl⟩
  clear KM
  go_wp2_with fail
  go_loopw [4, 16] (fun _ k wr => ∃ m : Nat, k = .int .i64 m ∧ m ≤ N ∧ Hid (∃ rows, RowsAt wr w.heap.size w.heap.size rows (copPart V.L m) ∧ Below w.heap.size w wr)) (fun _ k _ => N - (intOf k).toNat)
  case atStart => exact ⟨0, rfl, Nat.zero_le _, HI.out⟩
  case round =>
    obtain ⟨m, rfl, hm, HR⟩ := hrel
    clear c0 c1 c2
    by_cases hlt : m < N
    · obtain ⟨rws, hrw, hbw⟩ := HR.out
      obtain ⟨sa1, sc1, cb1, rows1, g1⟩ := HG.out.below hbw
      have hmL : m < V.L.length := by rw [HN.out]; exact hlt
      obtain ⟨c0, c1, c2⟩ := g1.cells
      rw [HN.out] at c2
      obtain ⟨v, hv, c3, f3, hown, hgl⟩ := g1.at_ hmL
      obtain ⟨a, c, rfl, hc, hcm⟩ := ownsRow_form hown
      have KA := Lib.hid (clone_nats (Holds.of_row (by rw [nats_len]; exact hown)) (by have := hgl.len; have := hset.t64; omega))
      have b0 : (0 : Int) ≤ (m : Int) := by omega
      have b1 : (m : Int) < (N : Int) := by omega
      have HRW := Lib.hid hrw
      have HBW := Lib.hid hbw
      have hbl := hbw.size
      clear g1 hown hgl hv hc hcm hrw hbw HR
      go_wp2_with fail
      refine KA.out.mono ?_
      rintro e w1 ⟨v1, rfl, ho1, hb1⟩
      have h1 := HRW.out.below hb1
      have hml : m < rws.length := by rw [HRW.out.len, copPart_len _ _ (by omega)]; exact hmL
      have c4 : w1.cell? ⟨w.heap.size, m, none⟩ = some rws[m] := by
        rw [cell_of_row _ _ _ _ _ _ h1.tab]
        simp [hml]
      generalize rws[m] = old at c4
      have f4 := free_of_row h1.tab m
      have HP : Hid (∃ rows, RowsAt (w1.setCell ⟨w.heap.size, m, none⟩ v1) w.heap.size w.heap.size rows (copPart V.L (m + 1)) ∧ Below w.heap.size w (w1.setCell ⟨w.heap.size, m, none⟩ v1)) := Lib.hid ⟨_, by rw [← copPart_next _ _ hmL]; exact HRW.out.put hb1 HBW.out.size ho1, (HBW.out.trans (hb1.mono HBW.out.size)).setCell (Nat.le_refl _) _⟩
      obtain ⟨a1, k1, rfl, _, _⟩ := ownsRow_form ho1
      have hz1 := Nat.lt_of_lt_of_le (lt_of_heap HRW.out.tab) hb1.size
      clear ho1 hb1 h1 hml
      go_wp2_with fail
      go_roundw
      case rel => exact ⟨m + 1, by go_num, by omega, HP⟩
      case measure => simp [intOf]; omega
    · have hme : m = N := by omega
      have HP : Hid (∃ rows, RowsAt wr w.heap.size w.heap.size rows V.L ∧ Below w.heap.size w wr) := Lib.hid (by
        have := HR.out
        rw [hme, ← HN.out] at this
        simpa [copPart] using this)
      clear HR hme
      go_wp2_with fail
      go_ret
      obtain ⟨rws, h1, h2⟩ := HP.out
      exact ⟨_, rws, rfl, h1, h2⟩
end Go.Proofs.Ytadlfmdliinnnaa
