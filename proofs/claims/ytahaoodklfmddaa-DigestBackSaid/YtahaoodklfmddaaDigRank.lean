/- Contract of digest's Rank at fewer than 20 nodes. Conditions: nodes, few. -/
import Derived.Test.YtahaoodklfmddaaDigFewSort
import Derived.Test.YtahaoodklfmddaaDigNodes
set_option maxRecDepth 100000
namespace Go.Proofs.Ytahaoodklfmddaa
open Go.RowKit Go.Maps Go.Sort Go.Shelf

/-- the first of these behind which as many have come -/
def rankG : DL → Int → Option Nat
  | [], _ => none
  | p :: t, r => if r - p.2 ≤ 0 then some (gr p.1) else rankG t (r - p.2)
/-- what Rank tells of it -/
def rankV : Option Nat → Value
  | none => .tuple #[.int .u64 0, .bool false]
  | some v => .tuple #[.int .u64 (v : Int), .bool true]
/-- the nodes by their greatest numbers -/
def byG (L : DL) : DL := (insertionSort (ltOf cfG) L.toArray 0 L.length).toList
theorem holds_G {w : World} {g : Nat} {L : DL} (h : RowN w g L) (hN : ∀ p ∈ L, NodeC p.1) : HoldsK encG 3 w g 0 L.toArray := by
  intro j hj
  have h1 := h.1 j (by rw [size_flatK] at hj ⊢; exact hj)
  rw [size_flatK] at hj
  have hj' : j / 3 < L.length := by simp at hj; omega
  have e2 : L.toArray[j / 3]! = L[j / 3] := by rw [getElem!_pos _ _ (by simpa using hj')]; simp
  refine ⟨?_, h1.2⟩
  rw [h1.1, get_flatK _ _ _ _ hj, get_flatK _ _ _ _ hj, e2, encG_eq (hN _ (List.getElem_mem hj'))]
theorem Grew.below {A B : World} (h : Grew A B) : Below A.heap.size A B := by
  obtain ⟨q, os, rfl⟩ := h
  exact ⟨rfl, rfl, rfl, by rw [size_grow]; exact Nat.le_add_right _ _, fun k hk => heap_grow_old _ _ hk⟩
theorem swk_G {w w' : World} {g : Nat} {d d' : Array (Nat × Int)} (h : HoldsK encG 3 w g 0 d) (hg : g < w.heap.size) (hs : SWK encG 3 w g 0 d' w') (hd : d'.size = d.size) : HoldsK encG 3 w' g 0 d' ∧ g < w'.heap.size ∧ w.grownBy w' (some g) := by
  refine ⟨hs.holds hg h hd, hs.lt hg, ?_⟩
  obtain ⟨n, os, rfl⟩ := hs
  refine ⟨rfl, rfl, rfl, by unfold sortWorldK; rw [size_grow, size_putRowK]; exact Nat.le_add_right _ _, fun k hk hne => ?_⟩
  unfold sortWorldK
  rw [heap_grow_old _ _ (by rw [size_putRowK]; exact hk)]
  have : g ≠ k := fun e => hne (by rw [e])
  simp [putRowK, putRow, mapBlock, Sort.ahead, Array.getElem?_modify, this]
theorem great_node (x : Nat × Int) (W : World) : Calls Try.prog 39 #[.agg #[.int .i64 (nA x), .int .u64 (nU x)]] W (fun e w' => e = .returned (.int .u64 ((gr x.1 : Nat) : Int)) ∧ Grew W w') := greatest_any (asN_node x.1).1 (asN_node x.1).2 W
theorem byG_perm (L : DL) : PermIn 0 L.length L.toArray (byG L).toArray := by
  have := (insertionSort_holds swo_G L.toArray 0 L.length (Nat.zero_le _) (by simp)).1
  simpa [byG] using this
theorem byG_len (L : DL) : (byG L).length = L.length := by
  have := (byG_perm L).1
  simpa using this

set_option maxHeartbeats 8000000 in
theorem rank_few {T : Tags} {i : Nat} {w : World} {p k b : Nat} {n : Int} {L : DL} (h : DkAt T i w p k n b L) (hk : 1 ≤ k) (hl : L.length < 20) (hN : ∀ q ∈ L, NodeC q.1) (hB : ∀ q ∈ byG L, 1 ≤ q.2 ∧ q.2 ≤ 1125899906842624) {r : Int} (h1 : 1 ≤ r) (h2 : r ≤ n) (hn : n ≤ 1125899906842624) :
    Calls Try.prog 18 #[.pointer (some ⟨p, 0, none⟩), .int .i64 r] w fun e w' => e = .returned (rankV (rankG (byG L) r)) ∧ Below w.heap.size w w' := by
  obtain ⟨c0, c1, c2, _⟩ := h.cells
  have KC := count_at hk c0 c1
  have KN := nodes_at c0 hk c2 h.map (by omega)
  have t1 : ¬ r < 1 := by omega
  have t2 : ¬ n < r := by omega
  have HL := Lib.hid hl
  have HN := Lib.hid hN
  have HB := Lib.hid hB
  have HR := Lib.hid (And.intro h1 (Int.le_trans h2 hn))
  clear h c0 c1 c2 hk hl hN hB h1 h2 hn
  go_enter Try.func18, Try.ntmps18
  go_wp2_with fail
  refine KC.mono ?_
  rintro e w' ⟨rfl, rfl⟩
  clear KC
  go_wp2_with fail
  refine KN.mono ?_
  rintro e w1 ⟨g, c, rfl, hg, hc, hrow, hb1⟩
  have KS := stable_few (c := c) (holds_G hrow HN.out) hrow.2 HL.out
  have HX := Lib.hid (And.intro (And.intro hg hrow) hb1)
  clear KN hg hc hrow hb1
  go_wp2_with fail
  refine KS.mono ?_
  rintro e w2 ⟨rfl, HS⟩
  clear KS
  obtain ⟨D, hD⟩ : ∃ D, byG L = D := ⟨_, rfl⟩
  have hDl : L.length = D.length := by rw [← hD, byG_len]
  have HY : Hid (HoldsK encG 3 w2 g 0 D.toArray ∧ g < w2.heap.size ∧ Below w.heap.size w w2) := by
    obtain ⟨⟨hg, hrow⟩, hb1⟩ := HX.out
    obtain ⟨a1, a2, a3⟩ := swk_G (holds_G hrow HN.out) hrow.2 HS.out (by have := (byG_perm L).1; simpa [byG] using this)
    exact ⟨by rw [← hD]; simpa [byG] using a1, a2, hb1.grown a3 hb1.size (fun j hj => by cases hj; exact hg)⟩
  rw [hDl]
  have hD20 : D.length < 20 := by have := HL.out; omega
  rw [hD] at HB
  have HD := Lib.hid hD
  clear HS HX HL HN hDl hD
  go_wp2_with fail
  go_loopw [1, 23] (fun s1 s23 wr => ∃ (j : Nat) (rr : Int), s23 = .int .i64 j ∧ s1 = .int .i64 rr ∧ j ≤ D.length ∧ 1 ≤ rr ∧ rr ≤ 1125899906842624 ∧ Hid (rankG D r = rankG (D.drop j) rr) ∧ Hid (Below w2.heap.size w2 wr)) (fun _ s23 _ => D.length - (intOf s23).toNat)
  case atStart => exact ⟨0, r, rfl, rfl, Nat.zero_le _, HR.out.1, HR.out.2, Lib.hid (by simp), Lib.hid (Below.refl _ _)⟩
  case round =>
    obtain ⟨j, rr, rfl, rfl, hj, hr1, hr2, HG, HW⟩ := hrel
    by_cases hlt : j < D.length
    · have hz : (j : Int) < (D.length : Int) := by omega
      obtain ⟨q, hq⟩ : ∃ q, D[j]? = some q := ⟨_, List.getElem?_eq_getElem hlt⟩
      have hqm := List.mem_of_getElem? hq
      obtain ⟨b1, b2⟩ := HB.out q hqm
      have hdrop : D.drop j = q :: D.drop (j + 1) := by
        obtain ⟨hj', e⟩ := List.getElem?_eq_some_iff.1 hq
        rw [List.drop_eq_getElem_cons hj', e]
      have e2 : D.toArray[j]! = q := by
        obtain ⟨hj', e⟩ := List.getElem?_eq_some_iff.1 hq
        rw [getElem!_pos _ _ (by simpa using hj')]; simpa using e
      obtain ⟨m0, _⟩ := HY.out.1.cell (i := j) (c := 0) (by simpa using hlt) (by omega)
      obtain ⟨m1, _⟩ := HY.out.1.cell (i := j) (c := 1) (by simpa using hlt) (by omega)
      obtain ⟨m2, _⟩ := HY.out.1.cell (i := j) (c := 2) (by simpa using hlt) (by omega)
      rw [e2] at m0 m1 m2
      simp only [Nat.zero_add, Nat.add_zero] at m0 m1 m2
      have f : ∀ {a : Addr} {v : Value}, w2.cell? a = some v → wr.cell? a = some v := fun hx => by rw [HW.out.cell (World.block_lt_of_cell? w2 _ hx)]; exact hx
      have r0 : wr.cell? ⟨g, j * 3, none⟩ = some (.int .i64 (nA q)) := f m0
      have r1 : wr.cell? ⟨g, j * 3 + 1, none⟩ = some (.int .u64 (nU q)) := f m1
      have r2 : wr.cell? ⟨g, j * 3 + 2, none⟩ = some (.int .i64 q.2) := f m2
      have HJ : Hid (j + 1 ≤ D.length) := Lib.hid hlt
      have wk : IntKind.i64.wrap (rr - q.2) = rr - q.2 := by rw [IntKind.wrap_i64]; omega
      have HA : Hid (Below w2.heap.size w2 (wr.alloc (.cells #[.int .i64 (nA q), .int .u64 (nU q), .int .i64 q.2] 50))) := HW.out.alloc HW.out.size _
      rw [hdrop] at HG
      by_cases hle : rr - q.2 ≤ 0
      · have FE : Hid (rankG (byG L) r = some (gr q.1)) := Lib.hid (by rw [HD.out, HG.out]; unfold rankG; rw [if_pos hle])
        have KP1 := fun W => place_any (nA q) (nU q) q.2 W
        have KG1 := fun W => great_node q W
        clear m0 m1 m2 e2 hdrop hq hqm b1 b2 hr1 hr2 HG HW f
        generalize nA q = x0 at *
        generalize nU q = x1 at *
        generalize q.2 = x2 at *
        go_wp2_with fail
        refine (KP1 _).mono ?_
        rintro e w3 ⟨rfl, os, hw3⟩
        have g3 : Hid (Below w2.heap.size w2 w3) := by
          rw [hw3]
          exact HA.out.trans ((Grew.of_grow os).below.mono HA.out.size)
        clear KP1 hw3
        go_wp2_with fail
        refine (KG1 _).mono ?_
        rintro e w4 ⟨rfl, q4, os4, hw4⟩
        have FW : Hid (Below w.heap.size w w4) := by
          have h4 : Below w2.heap.size w2 w4 := by
            exact g3.out.trans ((show Grew w3 w4 from ⟨q4, os4, hw4⟩).below.mono g3.out.size)
          exact HY.out.2.2.trans (h4.mono HY.out.2.2.size)
        clear KG1 hw4 g3
        go_wp2_with fail
        refine bodyPost_ret (results_tmp2 rfl _ _ _) rfl ?_
        exact ⟨by rw [FE.out]; rfl, FW.out⟩
      · have FG : Hid (rankG D r = rankG (D.drop (j + 1)) (rr - q.2)) := Lib.hid (by rw [HG.out]; show (if rr - q.2 ≤ 0 then _ else _) = _; rw [if_neg hle])
        have b3 : 1 ≤ rr - q.2 := by omega
        have b4 : rr - q.2 ≤ 1125899906842624 := by omega
        have hle' : 0 < rr - q.2 := by omega
        clear m0 m1 m2 e2 hdrop hq hqm b1 b2 hr1 hr2 HG HW f
        generalize nA q = x0 at *
        generalize nU q = x1 at *
        generalize q.2 = x2 at *
        go_wp2_with fail
        go_roundw
        case rel => exact ⟨j + 1, rr - x2, by go_num, rfl, HJ.out, b3, b4, FG, HA⟩
        case measure => have := HJ.out; simp [intOf]; omega
    · have hj2 : j = D.length := by omega
      have FE : Hid (rankG (byG L) r = none) := Lib.hid (by rw [HD.out, HG.out, hj2, List.drop_length]; rfl)
      have hz : ¬ (j : Int) < (D.length : Int) := by omega
      have FW : Hid (Below w.heap.size w wr) := Lib.hid (HY.out.2.2.trans (HW.out.mono HY.out.2.2.size))
      clear HG HW
      go_wp2_with fail
      refine bodyPost_ret (results_tmp2 rfl _ _ _) rfl ?_
      exact ⟨by rw [FE.out]; rfl, FW.out⟩

theorem rank_out {w : World} {p k : Nat} {n : Int} (hk : 1 ≤ k) (c0 : w.cell? ⟨p, 0, none⟩ = some (.int .i64 k)) (c1 : w.cell? ⟨p, 1, none⟩ = some (.int .i64 n)) {r : Int} (h : r < 1 ∨ n < r) :
    Calls Try.prog 18 #[.pointer (some ⟨p, 0, none⟩), .int .i64 r] w fun e w' => e = .returned (rankV none) ∧ w = w' := by
  have K := count_at hk c0 c1
  by_cases hr : r < 1
  · clear K h hk
    go_enter Try.func18, Try.ntmps18
    go_wp2_with fail
    refine bodyPost_ret (results_tmp2 rfl _ _ _) rfl ?_
    exact ⟨rfl, rfl⟩
  · have h2 : n < r := by omega
    clear h hk
    go_enter Try.func18, Try.ntmps18
    go_wp2_with fail
    refine K.mono ?_
    rintro e w' ⟨rfl, rfl⟩
    clear K
    go_wp2_with fail
    refine bodyPost_ret (results_tmp2 rfl _ _ _) rfl ?_
    exact ⟨rfl, rfl⟩
end Go.Proofs.Ytahaoodklfmddaa
