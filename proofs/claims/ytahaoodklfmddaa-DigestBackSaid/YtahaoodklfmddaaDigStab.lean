/- slices.SortStableFunc at a digest's nodes, at any length; the numbers of ranks in them. Conditions: nodes that rise. -/
import Derived.Test.YtahaoodklfmddaaStabN
import Derived.Test.YtahaoodklfmddaaDigRank
import Derived.Test.YtahaoodklfmddaaDigSum
set_option maxRecDepth 100000
namespace Go.Proofs.Ytahaoodklfmddaa
open Go.RowKit Go.Maps Go.Sort Go.Shelf

/-- by greatest numbers, those alike by codes -/
def ltG (x y : Nat × Int) : Bool := decide (gr x.1 < gr y.1 ∨ gr x.1 = gr y.1 ∧ x.1 < y.1)
theorem ltG_iff (x y : Nat × Int) : ltG x y = true ↔ (gr x.1 < gr y.1 ∨ gr x.1 = gr y.1 ∧ x.1 < y.1) := by unfold ltG; rw [decide_eq_true_eq]
theorem ltG_no (x y : Nat × Int) : ltG x y = false ↔ ¬ (gr x.1 < gr y.1 ∨ gr x.1 = gr y.1 ∧ x.1 < y.1) := by unfold ltG; rw [decide_eq_false_iff_not]
theorem swo_ltG : SWO ltG where
  irrefl x := by rw [ltG_no]; omega
  trans x y z h1 h2 := by rw [ltG_iff] at *; omega
  ntrans x y z h1 h2 := by rw [ltG_no] at *; omega
/-- D is L by greatest numbers -/
structure RankedG (L D : DL) : Prop where
  perm : D.Perm L
  order : D.Pairwise fun x y => ltG y x = false
theorem RankedG.le {L D : DL} (h : RankedG L D) : D.Pairwise fun x y => gr x.1 ≤ gr y.1 := h.order.imp fun {x y} h => by
  rw [ltG_no] at h
  omega
theorem sort_G {w : World} {g c : Nat} {L : DL} (hR : HoldsK encG 3 w g 0 L.toArray) (hg : g < w.heap.size) (hA : DAsc L) (hl : L.length ≤ 1000000) :
    Calls Try.prog 37 #[.slice (some ⟨g, 0, none⟩) L.length c, .func (.func 38) #[] #[]] w fun e w' =>
      e = .returned (.tuple #[]) ∧ Hid (∃ D, RankedG L D ∧ D.length = L.length ∧ HoldsK encG 3 w' g 0 D.toArray ∧ g < w'.heap.size ∧ w.grownBy w' (some g)) := by
  have eg : ∀ args w, (callFunc 38 args).run Try.prog w = .ok (.enter 38 args) w := enters_of Try.func38 (by kernel_rfl) rfl
  have O : OrdN 38 cfG ltG (fun x y => x.1 < y.1) w g 0 L.toArray :=
    { row := ⟨encG_len, encG_one, hR, hg⟩
      eg := eg
      cmp := fun m os dk _ x y => by
        have := closRank x y (sortWorldK encG 3 w g 0 m dk os)
        simpa [encG_form] using this
      swo := swo_ltG
      like := fun x y h => by
        rw [lt_G, Bool.eq_iff_iff, ltG_iff]
        simp; omega
      size := by simp; omega }
  have h := sortStable_anyN O c (fun i j hij hj => by
    have hj' : j < L.length := by simpa using hj
    rw [getElem!_pos L.toArray i (by simp; omega), getElem!_pos L.toArray j (by simpa using hj')]
    simp only [List.getElem_toArray]
    exact List.pairwise_iff_getElem.1 hA i j (by omega) hj' hij)
  have e0 : L.toArray.size = L.length := by simp
  rw [e0] at h
  refine h.mono ?_
  rintro e w' ⟨rfl, H⟩
  obtain ⟨d', h1, h2, h3⟩ := H.out
  have hd : d'.size = L.length := by rw [h2.1, e0]
  have hperm : d'.toList.Perm L := by
    have := h2.2.2
    have e1 : L.toArray.extract 0 L.length = L.toArray := by rw [← e0]; simp
    have e2 : d'.extract 0 L.length = d' := by rw [← hd]; simp
    rw [e1, e2] at this
    exact this
  have hord : d'.toList.Pairwise fun x y => ltG y x = false := by
    refine List.pairwise_iff_getElem.2 fun i j hi hj hij => ?_
    have := h3 i j (Nat.zero_le _) hij (by simp at hj; omega)
    rw [getElem!_pos d' i (by simpa using hi), getElem!_pos d' j (by simpa using hj)] at this
    simpa using this
  obtain ⟨a1, a2, a3⟩ := swk_G hR hg h1 (by rw [hd, e0])
  exact ⟨rfl, Lib.hid ⟨d'.toList, ⟨hperm, hord⟩, by simpa using hd, by simpa using a1, a2, a3⟩⟩

/-- where the number of a rank stands -/
theorem rankG_spec : ∀ (D : DL) (r : Int), 1 ≤ r → r ≤ total D → (∀ q ∈ D, 1 ≤ q.2) → ∃ A p B, D = A ++ p :: B ∧ rankG D r = some (gr p.1) ∧ total A < r ∧ r ≤ total A + p.2
  | [], r, h1, h2, _ => by have : total [] = 0 := rfl; omega
  | p :: t, r, h1, h2, hp => by
    rw [total_cons] at h2
    by_cases g : r - p.2 ≤ 0
    · refine ⟨[], p, t, rfl, ?_, ?_, ?_⟩
      · unfold rankG; rw [if_pos g]
      · have : total [] = 0 := rfl
        omega
      · have : total [] = 0 := rfl
        omega
    · obtain ⟨A, q, B, e, h3, h4, h5⟩ := rankG_spec t (r - p.2) (by omega) (by omega) (fun q hq => hp q (List.mem_cons_of_mem _ hq))
      refine ⟨p :: A, q, B, by rw [e]; rfl, ?_, ?_, ?_⟩
      · unfold rankG; rw [if_neg g]; exact h3
      · rw [total_cons]; omega
      · rw [total_cons]; omega
/-- greater ranks have no lesser numbers -/
theorem rankG_mono : ∀ (D : DL) (r s : Int) (u v : Nat), (D.Pairwise fun x y => gr x.1 ≤ gr y.1) → (∀ q ∈ D, 1 ≤ q.2) → r ≤ s → rankG D r = some u → rankG D s = some v → u ≤ v
  | [], _, _, _, _, _, _, _, h, _ => by simp [rankG] at h
  | p :: t, r, s, u, v, ho, hp, hrs, h1, h2 => by
    unfold rankG at h1 h2
    have o1 := List.pairwise_cons.1 ho
    by_cases g2 : s - p.2 ≤ 0
    · rw [if_pos g2] at h2
      rw [if_pos (by omega)] at h1
      cases h1; cases h2; exact Nat.le_refl _
    · rw [if_neg g2] at h2
      by_cases g1 : r - p.2 ≤ 0
      · rw [if_pos g1] at h1
        cases h1
        have : ∀ (D : DL) (s : Int) (v : Nat), rankG D s = some v → ∃ q ∈ D, v = gr q.1 := fun D => by
          induction D with
          | nil => intro s v h; simp [rankG] at h
          | cons q t ih =>
            intro s v h
            unfold rankG at h
            split at h
            · cases h; exact ⟨q, List.mem_cons_self .., rfl⟩
            · obtain ⟨q', hq', e⟩ := ih _ _ h
              exact ⟨q', List.mem_cons_of_mem _ hq', e⟩
        obtain ⟨q, hq, rfl⟩ := this t _ _ h2
        exact o1.1 q hq
      · rw [if_neg g1] at h1
        exact rankG_mono t _ _ u v o1.2 (fun q hq => hp q (List.mem_cons_of_mem _ hq)) (by omega) h1 h2
set_option maxHeartbeats 8000000 in
theorem rank_all {T : Tags} {i : Nat} {w : World} {p k b : Nat} {n : Int} {L : DL} (h : DkAt T i w p k n b L) (hk : 1 ≤ k) (hl : L.length ≤ 100000) (hN : ∀ q ∈ L, NodeC q.1) (hB : ∀ q ∈ L, 1 ≤ q.2 ∧ q.2 ≤ 1125899906842624) {r : Int} (h1 : 1 ≤ r) (h2 : r ≤ n) (hn : n ≤ 1125899906842624) :
    Calls Try.prog 18 #[.pointer (some ⟨p, 0, none⟩), .int .i64 r] w fun e w' => ∃ D, RankedG L D ∧ e = .returned (rankV (rankG D r)) ∧ Below w.heap.size w w' := by
  obtain ⟨c0, c1, c2, _⟩ := h.cells
  have KC := count_at hk c0 c1
  have KN := nodes_at c0 hk c2 h.map (by omega)
  have t1 : ¬ r < 1 := by omega
  have t2 : ¬ n < r := by omega
  have HL := Lib.hid hl
  have HA := Lib.hid h.map.asc
  have HN := Lib.hid hN
  have HB := Lib.hid hB
  have HR := Lib.hid (And.intro h1 (Int.le_trans h2 hn))
  clear h c0 c1 c2 hk hl hN hB h1 h2 hn
  go_enter Try.func18, Try.ntmps18
  go_wp2_with fail
  refine KC.mono ?_
  rintro e w' ⟨rfl, rfl⟩
  clear KC
  go_wp2_with fail
  refine KN.mono ?_
  rintro e w1 ⟨g, c, rfl, hg, hc, hrow, hb1⟩
  have KS := sort_G (c := c) (holds_G hrow HN.out) hrow.2 HA.out (by have := HL.out; omega)
  have HX := Lib.hid (And.intro (And.intro hg hrow) hb1)
  clear KN hg hc hrow hb1
  go_wp2_with fail
  refine KS.mono ?_
  rintro e w2 ⟨rfl, HS⟩
  clear KS
  obtain ⟨D, hRk, hDl, hH, hgs, hgr⟩ := HS.out
  have HY : Hid (HoldsK encG 3 w2 g 0 D.toArray ∧ g < w2.heap.size ∧ Below w.heap.size w w2) := by
    obtain ⟨⟨hg, hrow⟩, hb1⟩ := HX.out
    exact ⟨hH, hgs, hb1.grown hgr hb1.size (fun j hj => by cases hj; exact hg)⟩
  have hD20 : D.length ≤ 100000 := by have := HL.out; omega
  have HB2 : Hid (∀ q ∈ D, 1 ≤ q.2 ∧ q.2 ≤ 1125899906842624) := Lib.hid (fun q hq => HB.out q (hRk.perm.mem_iff.1 hq))
  replace HB := HB2
  rw [← hDl]
  have HD := Lib.hid hRk
  clear HS HX HL HN hDl hRk hH hgs hgr HA HB2
  go_wp2_with fail
  go_loopw [1, 23] (fun s1 s23 wr => ∃ (j : Nat) (rr : Int), s23 = .int .i64 j ∧ s1 = .int .i64 rr ∧ j ≤ D.length ∧ 1 ≤ rr ∧ rr ≤ 1125899906842624 ∧ Hid (rankG D r = rankG (D.drop j) rr) ∧ Hid (Below w2.heap.size w2 wr)) (fun _ s23 _ => D.length - (intOf s23).toNat)
  case atStart => exact ⟨0, r, rfl, rfl, Nat.zero_le _, HR.out.1, HR.out.2, Lib.hid (by simp), Lib.hid (Below.refl _ _)⟩
  case round =>
    obtain ⟨j, rr, rfl, rfl, hj, hr1, hr2, HG, HW⟩ := hrel
    by_cases hlt : j < D.length
    · have hz : (j : Int) < (D.length : Int) := by omega
      obtain ⟨q, hq⟩ : ∃ q, D[j]? = some q := ⟨_, List.getElem?_eq_getElem hlt⟩
      have hqm := List.mem_of_getElem? hq
      obtain ⟨b1, b2⟩ := HB.out q hqm
      have hdrop : D.drop j = q :: D.drop (j + 1) := by
        obtain ⟨hj', e⟩ := List.getElem?_eq_some_iff.1 hq
        rw [List.drop_eq_getElem_cons hj', e]
      have e2 : D.toArray[j]! = q := by
        obtain ⟨hj', e⟩ := List.getElem?_eq_some_iff.1 hq
        rw [getElem!_pos _ _ (by simpa using hj')]; simpa using e
      obtain ⟨m0, _⟩ := HY.out.1.cell (i := j) (c := 0) (by simpa using hlt) (by omega)
      obtain ⟨m1, _⟩ := HY.out.1.cell (i := j) (c := 1) (by simpa using hlt) (by omega)
      obtain ⟨m2, _⟩ := HY.out.1.cell (i := j) (c := 2) (by simpa using hlt) (by omega)
      rw [e2] at m0 m1 m2
      simp only [Nat.zero_add, Nat.add_zero] at m0 m1 m2
      have f : ∀ {a : Addr} {v : Value}, w2.cell? a = some v → wr.cell? a = some v := fun hx => by rw [HW.out.cell (World.block_lt_of_cell? w2 _ hx)]; exact hx
      have r0 : wr.cell? ⟨g, j * 3, none⟩ = some (.int .i64 (nA q)) := f m0
      have r1 : wr.cell? ⟨g, j * 3 + 1, none⟩ = some (.int .u64 (nU q)) := f m1
      have r2 : wr.cell? ⟨g, j * 3 + 2, none⟩ = some (.int .i64 q.2) := f m2
      have HJ : Hid (j + 1 ≤ D.length) := Lib.hid hlt
      have wk : IntKind.i64.wrap (rr - q.2) = rr - q.2 := by rw [IntKind.wrap_i64]; omega
      have HA : Hid (Below w2.heap.size w2 (wr.alloc (.cells #[.int .i64 (nA q), .int .u64 (nU q), .int .i64 q.2] 50))) := HW.out.alloc HW.out.size _
      rw [hdrop] at HG
      by_cases hle : rr - q.2 ≤ 0
      · have FE : Hid (rankG D r = some (gr q.1)) := Lib.hid (by rw [HG.out]; unfold rankG; rw [if_pos hle])
        have KP1 := fun W => place_any (nA q) (nU q) q.2 W
        have KG1 := fun W => great_node q W
        clear m0 m1 m2 e2 hdrop hq hqm b1 b2 hr1 hr2 HG HW f
        generalize nA q = x0 at *
        generalize nU q = x1 at *
        generalize q.2 = x2 at *
        go_wp2_with fail
        refine (KP1 _).mono ?_
        rintro e w3 ⟨rfl, os, hw3⟩
        have g3 : Hid (Below w2.heap.size w2 w3) := by
          rw [hw3]
          exact HA.out.trans ((Grew.of_grow os).below.mono HA.out.size)
        clear KP1 hw3
        go_wp2_with fail
        refine (KG1 _).mono ?_
        rintro e w4 ⟨rfl, q4, os4, hw4⟩
        have FW : Hid (Below w.heap.size w w4) := by
          have h4 : Below w2.heap.size w2 w4 := by
            exact g3.out.trans ((show Grew w3 w4 from ⟨q4, os4, hw4⟩).below.mono g3.out.size)
          exact HY.out.2.2.trans (h4.mono HY.out.2.2.size)
        clear KG1 hw4 g3
        go_wp2_with fail
        refine bodyPost_ret (results_tmp2 rfl _ _ _) rfl ?_
        exact ⟨D, HD.out, by rw [FE.out]; rfl, FW.out⟩
      · have FG : Hid (rankG D r = rankG (D.drop (j + 1)) (rr - q.2)) := Lib.hid (by rw [HG.out]; show (if rr - q.2 ≤ 0 then _ else _) = _; rw [if_neg hle])
        have b3 : 1 ≤ rr - q.2 := by omega
        have b4 : rr - q.2 ≤ 1125899906842624 := by omega
        have hle' : 0 < rr - q.2 := by omega
        clear m0 m1 m2 e2 hdrop hq hqm b1 b2 hr1 hr2 HG HW f
        generalize nA q = x0 at *
        generalize nU q = x1 at *
        generalize q.2 = x2 at *
        go_wp2_with fail
        go_roundw
        case rel => exact ⟨j + 1, rr - x2, by go_num, rfl, HJ.out, b3, b4, FG, HA⟩
        case measure => have := HJ.out; simp [intOf]; omega
    · have hj2 : j = D.length := by omega
      have FE : Hid (rankG D r = none) := Lib.hid (by rw [HG.out, hj2, List.drop_length]; rfl)
      have hz : ¬ (j : Int) < (D.length : Int) := by omega
      have FW : Hid (Below w.heap.size w wr) := Lib.hid (HY.out.2.2.trans (HW.out.mono HY.out.2.2.size))
      clear HG HW
      go_wp2_with fail
      refine bodyPost_ret (results_tmp2 rfl _ _ _) rfl ?_
      exact ⟨D, HD.out, by rw [FE.out]; rfl, FW.out⟩

end Go.Proofs.Ytahaoodklfmddaa
