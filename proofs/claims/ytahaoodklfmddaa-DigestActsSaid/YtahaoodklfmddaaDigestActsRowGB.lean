/- The texts DigSum DigStab RqRankP, one behind the other; each one's own comment says what it holds. -/
import Derived.Test.YtahaoodklfmddaaDigFew
import Derived.Test.YtahaoodklfmddaaStabN
import Derived.Test.YtahaoodklfmddaaDigestActsRowGA
import Derived.Test.YtahaoodklfmddaaDigMap
/- Plain mathematics of sums over a digest's nodes: numbers inserted one after another with no need to compress. Conditions: none. -/
set_option maxRecDepth 100000
namespace Go.Proofs.Ytahaoodklfmddaa
open Go.RowKit Go.Maps Go.Sort

/-- how many the nodes count whose codes are so -/
def csum (f : Nat → Bool) : DL → Int
  | [] => 0
  | p :: r => (if f p.1 then p.2 else 0) + csum f r
def total (L : DL) : Int := csum (fun _ => true) L
theorem total_cons (p : Nat × Int) (r : DL) : total (p :: r) = p.2 + total r := rfl
theorem csum_append (f : Nat → Bool) : ∀ A B : DL, csum f (A ++ B) = csum f A + csum f B
  | [], B => by simp [csum]
  | p :: r, B => by
    have ih := csum_append f r B
    show (if f p.1 then p.2 else 0) + csum f (r ++ B) = (if f p.1 then p.2 else 0) + csum f r + csum f B
    omega
theorem csum_all {f : Nat → Bool} : ∀ {L : DL}, (∀ q ∈ L, f q.1 = true) → csum f L = total L
  | [], _ => rfl
  | p :: r, h => by
    have ih := csum_all (f := f) (L := r) fun q hq => h q (List.mem_cons_of_mem _ hq)
    show (if f p.1 then p.2 else 0) + csum f r = p.2 + total r
    rw [h p (List.mem_cons_self ..), ih]; rfl
theorem csum_no {f : Nat → Bool} : ∀ {L : DL}, (∀ q ∈ L, f q.1 = false) → csum f L = 0
  | [], _ => rfl
  | p :: r, h => by
    have ih := csum_no (f := f) (L := r) fun q hq => h q (List.mem_cons_of_mem _ hq)
    show (if f p.1 then p.2 else 0) + csum f r = 0
    rw [h p (List.mem_cons_self ..), ih]; rfl
theorem csum_perm (f : Nat → Bool) {A B : DL} (h : A.Perm B) : csum f A = csum f B := by
  induction h with
  | nil => rfl
  | cons x _ ih =>
    show (if f x.1 then x.2 else 0) + _ = (if f x.1 then x.2 else 0) + _
    rw [ih]
  | swap x y l =>
    show (if f y.1 then y.2 else 0) + ((if f x.1 then x.2 else 0) + csum f l) = (if f x.1 then x.2 else 0) + ((if f y.1 then y.2 else 0) + csum f l)
    omega
  | trans _ _ i1 i2 => exact i1.trans i2
theorem csum_putD (f : Nat → Bool) {L : DL} (hA : DAsc L) (x : Nat) (c : Int) : csum f (putD x c L) = csum f L + (if f x then c - dcnt L x else 0) := by
  induction L with
  | nil => simp [putD, csum, dcnt]
  | cons p r ih =>
    have h1 := dasc_head hA
    have ih := ih (dasc_tail hA)
    unfold putD
    by_cases e1 : x < p.1
    · rw [if_pos e1]
      have e : dcnt (p :: r) x = 0 := dcnt_none fun q hq => by
        rcases List.mem_cons.1 hq with rfl | hq
        · omega
        · have := h1 q hq; omega
      rw [e]
      show (if f x then c else 0) + csum f (p :: r) = _
      split <;> omega
    · rw [if_neg e1]
      by_cases e2 : p.1 = x
      · rw [if_pos e2]
        have e : dcnt (p :: r) x = p.2 := by unfold dcnt; rw [if_pos e2]
        rw [e]
        show (if f x then c else 0) + csum f r = (if f p.1 then p.2 else 0) + csum f r + _
        rw [e2]
        split <;> omega
      · rw [if_neg e2]
        have e : dcnt (p :: r) x = dcnt r x := by show (if p.1 = x then _ else _) = _; rw [if_neg e2]
        rw [e]
        show (if f p.1 then p.2 else 0) + csum f (putD x c r) = (if f p.1 then p.2 else 0) + csum f r + _
        rw [ih]
        omega
theorem csum_nonneg (f : Nat → Bool) : ∀ {L : DL}, (∀ q ∈ L, 1 ≤ q.2) → 0 ≤ csum f L
  | [], _ => by simp [csum]
  | p :: r, h => by
    have ih := csum_nonneg f (L := r) fun q hq => h q (List.mem_cons_of_mem _ hq)
    have := h p (List.mem_cons_self ..)
    show 0 ≤ (if f p.1 then p.2 else 0) + csum f r
    split <;> omega

/-- all of these inserted -/
def DV.insAll (V : DV) (xs : List Nat) : DV := xs.foldl DV.ins0 V
theorem insAll_snoc (V : DV) (xs : List Nat) (x : Nat) : V.insAll (xs ++ [x]) = (V.insAll xs).ins0 x := by simp [DV.insAll]
theorem ins_csum (f : Nat → Bool) {V : DV} (hA : DAsc V.L) (x : Nat) : csum f (V.ins0 x).L = csum f V.L + (if f x then 1 else 0) := by
  show csum f (putD x (dcnt V.L x + 1) V.L) = _
  rw [csum_putD f hA]
  split <;> omega
/-- what is known of them -/
structure DV.Of (k : Nat) (xs : List Nat) (V : DV) : Prop where
  k : V.k = k
  n : V.n = xs.length
  asc : DAsc V.L
  len : V.L.length ≤ xs.length
  codes : ∀ q ∈ V.L, q.1 ∈ xs
  sums : ∀ f, csum f V.L = (xs.countP f : Int)
theorem of_none (k : Nat) : DV.Of k [] (DV.none_k k) := ⟨rfl, rfl, List.Pairwise.nil, Nat.le_refl _, (fun q hq => by cases hq), fun f => rfl⟩
theorem DV.Of.ins {k : Nat} {xs : List Nat} {V : DV} (h : DV.Of k xs V) (x : Nat) : DV.Of k (xs ++ [x]) (V.ins0 x) where
  k := h.k
  n := by show V.n + 1 = _; rw [h.n, List.length_append]; rfl
  asc := dasc_putD h.asc _ _
  len := by
    have := putD_len V.L x (dcnt V.L x + 1)
    have := h.len
    show (putD x (dcnt V.L x + 1) V.L).length ≤ _
    rw [List.length_append]; simp; omega
  codes := fun q hq => by
    rcases putD_sub hq with rfl | hq
    · simp
    · exact List.mem_append_left _ (h.codes q hq)
  sums := fun f => by
    rw [ins_csum f h.asc, h.sums, List.countP_append]
    simp [List.countP_cons]
    split <;> simp_all
end Go.Proofs.Ytahaoodklfmddaa
/- slices.SortStableFunc at a digest's nodes, at any length; the numbers of ranks in them. Conditions: nodes that rise. -/
set_option maxRecDepth 100000
namespace Go.Proofs.Ytahaoodklfmddaa
open Go.RowKit Go.Maps Go.Sort Go.Shelf

/-- by greatest numbers, those alike by codes -/
def ltG (x y : Nat × Int) : Bool := decide (gr x.1 < gr y.1 ∨ gr x.1 = gr y.1 ∧ x.1 < y.1)
theorem ltG_iff (x y : Nat × Int) : ltG x y = true ↔ (gr x.1 < gr y.1 ∨ gr x.1 = gr y.1 ∧ x.1 < y.1) := by unfold ltG; rw [decide_eq_true_eq]
theorem ltG_no (x y : Nat × Int) : ltG x y = false ↔ ¬ (gr x.1 < gr y.1 ∨ gr x.1 = gr y.1 ∧ x.1 < y.1) := by unfold ltG; rw [decide_eq_false_iff_not]
theorem swo_ltG : SWO ltG where
  irrefl x := by rw [ltG_no]; omega
  trans x y z h1 h2 := by rw [ltG_iff] at *; omega
  ntrans x y z h1 h2 := by rw [ltG_no] at *; omega
/-- D is L by greatest numbers -/
structure RankedG (L D : DL) : Prop where
  perm : D.Perm L
  order : D.Pairwise fun x y => ltG y x = false
theorem RankedG.le {L D : DL} (h : RankedG L D) : D.Pairwise fun x y => gr x.1 ≤ gr y.1 := h.order.imp fun {x y} h => by
  rw [ltG_no] at h
  omega
theorem sort_G {w : World} {g c : Nat} {L : DL} (hR : HoldsK encG 3 w g 0 L.toArray) (hg : g < w.heap.size) (hA : DAsc L) (hl : L.length ≤ 1000000) :
    Calls Try.prog 37 #[.slice (some ⟨g, 0, none⟩) L.length c, .func (.func 38) #[] #[]] w fun e w' =>
      e = .returned (.tuple #[]) ∧ Hid (∃ D, RankedG L D ∧ D.length = L.length ∧ HoldsK encG 3 w' g 0 D.toArray ∧ g < w'.heap.size ∧ w.grownBy w' (some g)) := by
  have eg : ∀ args w, (callFunc 38 args).run Try.prog w = .ok (.enter 38 args) w := enters_of Try.func38 (by kernel_rfl) rfl
  have O : OrdN 38 cfG ltG (fun x y => x.1 < y.1) w g 0 L.toArray :=
    { row := ⟨encG_len, encG_one, hR, hg⟩
      eg := eg
      cmp := fun m os dk _ x y => by
        have := closRank x y (sortWorldK encG 3 w g 0 m dk os)
        simpa [encG_form] using this
      swo := swo_ltG
      like := fun x y h => by
        rw [lt_G, Bool.eq_iff_iff, ltG_iff]
        simp; omega
      size := by simp; omega }
  have h := sortStable_anyN O c (fun i j hij hj => by
    have hj' : j < L.length := by simpa using hj
    rw [getElem!_pos L.toArray i (by simp; omega), getElem!_pos L.toArray j (by simpa using hj')]
    simp only [List.getElem_toArray]
    exact List.pairwise_iff_getElem.1 hA i j (by omega) hj' hij)
  have e0 : L.toArray.size = L.length := by simp
  rw [e0] at h
  refine h.mono ?_
  rintro e w' ⟨rfl, H⟩
  obtain ⟨d', h1, h2, h3⟩ := H.out
  have hd : d'.size = L.length := by rw [h2.1, e0]
  have hperm : d'.toList.Perm L := by
    have := h2.2.2
    have e1 : L.toArray.extract 0 L.length = L.toArray := by rw [← e0]; simp
    have e2 : d'.extract 0 L.length = d' := by rw [← hd]; simp
    rw [e1, e2] at this
    exact this
  have hord : d'.toList.Pairwise fun x y => ltG y x = false := by
    refine List.pairwise_iff_getElem.2 fun i j hi hj hij => ?_
    have := h3 i j (Nat.zero_le _) hij (by simp at hj; omega)
    rw [getElem!_pos d' i (by simpa using hi), getElem!_pos d' j (by simpa using hj)] at this
    simpa using this
  obtain ⟨a1, a2, a3⟩ := swk_G hR hg h1 (by rw [hd, e0])
  exact ⟨rfl, Lib.hid ⟨d'.toList, ⟨hperm, hord⟩, by simpa using hd, by simpa using a1, a2, a3⟩⟩

/-- where the number of a rank stands -/
theorem rankG_spec : ∀ (D : DL) (r : Int), 1 ≤ r → r ≤ total D → (∀ q ∈ D, 1 ≤ q.2) → ∃ A p B, D = A ++ p :: B ∧ rankG D r = some (gr p.1) ∧ total A < r ∧ r ≤ total A + p.2
  | [], r, h1, h2, _ => by have : total [] = 0 := rfl; omega
  | p :: t, r, h1, h2, hp => by
    rw [total_cons] at h2
    by_cases g : r - p.2 ≤ 0
    · refine ⟨[], p, t, rfl, ?_, ?_, ?_⟩
      · unfold rankG; rw [if_pos g]
      · have : total [] = 0 := rfl
        omega
      · have : total [] = 0 := rfl
        omega
    · obtain ⟨A, q, B, e, h3, h4, h5⟩ := rankG_spec t (r - p.2) (by omega) (by omega) (fun q hq => hp q (List.mem_cons_of_mem _ hq))
      refine ⟨p :: A, q, B, by rw [e]; rfl, ?_, ?_, ?_⟩
      · unfold rankG; rw [if_neg g]; exact h3
      · rw [total_cons]; omega
      · rw [total_cons]; omega
/-- greater ranks have no lesser numbers -/
theorem rankG_mono : ∀ (D : DL) (r s : Int) (u v : Nat), (D.Pairwise fun x y => gr x.1 ≤ gr y.1) → (∀ q ∈ D, 1 ≤ q.2) → r ≤ s → rankG D r = some u → rankG D s = some v → u ≤ v
  | [], _, _, _, _, _, _, _, h, _ => by simp [rankG] at h
  | p :: t, r, s, u, v, ho, hp, hrs, h1, h2 => by
    unfold rankG at h1 h2
    have o1 := List.pairwise_cons.1 ho
    by_cases g2 : s - p.2 ≤ 0
    · rw [if_pos g2] at h2
      rw [if_pos (by omega)] at h1
      cases h1; cases h2; exact Nat.le_refl _
    · rw [if_neg g2] at h2
      by_cases g1 : r - p.2 ≤ 0
      · rw [if_pos g1] at h1
        cases h1
        have : ∀ (D : DL) (s : Int) (v : Nat), rankG D s = some v → ∃ q ∈ D, v = gr q.1 := fun D => by
          induction D with
          | nil => intro s v h; simp [rankG] at h
          | cons q t ih =>
            intro s v h
            unfold rankG at h
            split at h
            · cases h; exact ⟨q, List.mem_cons_self .., rfl⟩
            · obtain ⟨q', hq', e⟩ := ih _ _ h
              exact ⟨q', List.mem_cons_of_mem _ hq', e⟩
        obtain ⟨q, hq, rfl⟩ := this t _ _ h2
        exact o1.1 q hq
      · rw [if_neg g1] at h1
        exact rankG_mono t _ _ u v o1.2 (fun q hq => hp q (List.mem_cons_of_mem _ hq)) (by omega) h1 h2
set_option maxHeartbeats 8000000 in
theorem rank_all {T : Tags} {i : Nat} {w : World} {p k b : Nat} {n : Int} {L : DL} (h : DkAt T i w p k n b L) (hk : 1 ≤ k) (hl : L.length ≤ 100000) (hN : ∀ q ∈ L, NodeC q.1) (hB : ∀ q ∈ L, 1 ≤ q.2 ∧ q.2 ≤ 1125899906842624) {r : Int} (h1 : 1 ≤ r) (h2 : r ≤ n) (hn : n ≤ 1125899906842624) :
    Calls Try.prog 18 #[.pointer (some ⟨p, 0, none⟩), .int .i64 r] w fun e w' => ∃ D, RankedG L D ∧ e = .returned (rankV (rankG D r)) ∧ Below w.heap.size w w' := by
  obtain ⟨c0, c1, c2, _⟩ := h.cells
  have KC := count_at hk c0 c1
  have KN := nodes_at c0 hk c2 h.map (by omega)
  have t1 : ¬ r < 1 := by omega
  have t2 : ¬ n < r := by omega
  have HL := Lib.hid hl
  have HA := Lib.hid h.map.asc
  have HN := Lib.hid hN
  have HB := Lib.hid hB
  have HR := Lib.hid (And.intro h1 (Int.le_trans h2 hn))
  clear h c0 c1 c2 hk hl hN hB h1 h2 hn
  go_enter Try.func18, Try.ntmps18
  go_wp2_with fail
  refine KC.mono ?_
  rintro e w' ⟨rfl, rfl⟩
  clear KC
  go_wp2_with fail
  refine KN.mono ?_
  rintro e w1 ⟨g, c, rfl, hg, hc, hrow, hb1⟩
  have KS := sort_G (c := c) (holds_G hrow HN.out) hrow.2 HA.out (by have := HL.out; omega)
  have HX := Lib.hid (And.intro (And.intro hg hrow) hb1)
  clear KN hg hc hrow hb1
  go_wp2_with fail
  refine KS.mono ?_
  rintro e w2 ⟨rfl, HS⟩
  clear KS
  obtain ⟨D, hRk, hDl, hH, hgs, hgr⟩ := HS.out
  have HY : Hid (HoldsK encG 3 w2 g 0 D.toArray ∧ g < w2.heap.size ∧ Below w.heap.size w w2) := by
    obtain ⟨⟨hg, hrow⟩, hb1⟩ := HX.out
    exact ⟨hH, hgs, hb1.grown hgr hb1.size (fun j hj => by cases hj; exact hg)⟩
  have hD20 : D.length ≤ 100000 := by have := HL.out; omega
  have HB2 : Hid (∀ q ∈ D, 1 ≤ q.2 ∧ q.2 ≤ 1125899906842624) := Lib.hid (fun q hq => HB.out q (hRk.perm.mem_iff.1 hq))
  replace HB := HB2
  rw [← hDl]
  have HD := Lib.hid hRk
  clear HS HX HL HN hDl hRk hH hgs hgr HA HB2
  go_wp2_with fail
  go_loopw [1, 23] (fun s1 s23 wr => ∃ (j : Nat) (rr : Int), s23 = .int .i64 j ∧ s1 = .int .i64 rr ∧ j ≤ D.length ∧ 1 ≤ rr ∧ rr ≤ 1125899906842624 ∧ Hid (rankG D r = rankG (D.drop j) rr) ∧ Hid (Below w2.heap.size w2 wr)) (fun _ s23 _ => D.length - (intOf s23).toNat)
  case atStart => exact ⟨0, r, rfl, rfl, Nat.zero_le _, HR.out.1, HR.out.2, Lib.hid (by simp), Lib.hid (Below.refl _ _)⟩
  case round =>
    obtain ⟨j, rr, rfl, rfl, hj, hr1, hr2, HG, HW⟩ := hrel
    by_cases hlt : j < D.length
    · have hz : (j : Int) < (D.length : Int) := by omega
      obtain ⟨q, hq⟩ : ∃ q, D[j]? = some q := ⟨_, List.getElem?_eq_getElem hlt⟩
      have hqm := List.mem_of_getElem? hq
      obtain ⟨b1, b2⟩ := HB.out q hqm
      have hdrop : D.drop j = q :: D.drop (j + 1) := by
        obtain ⟨hj', e⟩ := List.getElem?_eq_some_iff.1 hq
        rw [List.drop_eq_getElem_cons hj', e]
      have e2 : D.toArray[j]! = q := by
        obtain ⟨hj', e⟩ := List.getElem?_eq_some_iff.1 hq
        rw [getElem!_pos _ _ (by simpa using hj')]; simpa using e
      obtain ⟨m0, _⟩ := HY.out.1.cell (i := j) (c := 0) (by simpa using hlt) (by omega)
      obtain ⟨m1, _⟩ := HY.out.1.cell (i := j) (c := 1) (by simpa using hlt) (by omega)
      obtain ⟨m2, _⟩ := HY.out.1.cell (i := j) (c := 2) (by simpa using hlt) (by omega)
      rw [e2] at m0 m1 m2
      simp only [Nat.zero_add, Nat.add_zero] at m0 m1 m2
      have f : ∀ {a : Addr} {v : Value}, w2.cell? a = some v → wr.cell? a = some v := fun hx => by rw [HW.out.cell (World.block_lt_of_cell? w2 _ hx)]; exact hx
      have r0 : wr.cell? ⟨g, j * 3, none⟩ = some (.int .i64 (nA q)) := f m0
      have r1 : wr.cell? ⟨g, j * 3 + 1, none⟩ = some (.int .u64 (nU q)) := f m1
      have r2 : wr.cell? ⟨g, j * 3 + 2, none⟩ = some (.int .i64 q.2) := f m2
      have HJ : Hid (j + 1 ≤ D.length) := Lib.hid hlt
      have wk : IntKind.i64.wrap (rr - q.2) = rr - q.2 := by rw [IntKind.wrap_i64]; omega
      have HA : Hid (Below w2.heap.size w2 (wr.alloc (.cells #[.int .i64 (nA q), .int .u64 (nU q), .int .i64 q.2] 50))) := HW.out.alloc HW.out.size _
      rw [hdrop] at HG
      by_cases hle : rr - q.2 ≤ 0
      · have FE : Hid (rankG D r = some (gr q.1)) := Lib.hid (by rw [HG.out]; unfold rankG; rw [if_pos hle])
        have KP1 := fun W => place_any (nA q) (nU q) q.2 W
        have KG1 := fun W => great_node q W
        clear m0 m1 m2 e2 hdrop hq hqm b1 b2 hr1 hr2 HG HW f
        generalize nA q = x0 at *
        generalize nU q = x1 at *
        generalize q.2 = x2 at *
        go_wp2_with fail
        refine (KP1 _).mono ?_
        rintro e w3 ⟨rfl, os, hw3⟩
        have g3 : Hid (Below w2.heap.size w2 w3) := by
          rw [hw3]
          exact HA.out.trans ((Grew.of_grow os).below.mono HA.out.size)
        clear KP1 hw3
        go_wp2_with fail
        refine (KG1 _).mono ?_
        rintro e w4 ⟨rfl, q4, os4, hw4⟩
        have FW : Hid (Below w.heap.size w w4) := by
          have h4 : Below w2.heap.size w2 w4 := by
            exact g3.out.trans ((show Grew w3 w4 from ⟨q4, os4, hw4⟩).below.mono g3.out.size)
          exact HY.out.2.2.trans (h4.mono HY.out.2.2.size)
        clear KG1 hw4 g3
        go_wp2_with fail
        refine bodyPost_ret (results_tmp2 rfl _ _ _) rfl ?_
        exact ⟨D, HD.out, by rw [FE.out]; rfl, FW.out⟩
      · have FG : Hid (rankG D r = rankG (D.drop (j + 1)) (rr - q.2)) := Lib.hid (by rw [HG.out]; show (if rr - q.2 ≤ 0 then _ else _) = _; rw [if_neg hle])
        have b3 : 1 ≤ rr - q.2 := by omega
        have b4 : rr - q.2 ≤ 1125899906842624 := by omega
        have hle' : 0 < rr - q.2 := by omega
        clear m0 m1 m2 e2 hdrop hq hqm b1 b2 hr1 hr2 HG HW f
        generalize nA q = x0 at *
        generalize nU q = x1 at *
        generalize q.2 = x2 at *
        go_wp2_with fail
        go_roundw
        case rel => exact ⟨j + 1, rr - x2, by go_num, rfl, HJ.out, b3, b4, FG, HA⟩
        case measure => have := HJ.out; simp [intOf]; omega
    · have hj2 : j = D.length := by omega
      have FE : Hid (rankG D r = none) := Lib.hid (by rw [HG.out, hj2, List.drop_length]; rfl)
      have hz : ¬ (j : Int) < (D.length : Int) := by omega
      have FW : Hid (Below w.heap.size w wr) := Lib.hid (HY.out.2.2.trans (HW.out.mono HY.out.2.2.size))
      clear HG HW
      go_wp2_with fail
      refine bodyPost_ret (results_tmp2 rfl _ _ _) rfl ?_
      exact ⟨D, HD.out, by rw [FE.out]; rfl, FW.out⟩

end Go.Proofs.Ytahaoodklfmddaa
/- Nodes put one by one to their places, by greatest numbers; what stands so is one. Plain mathematics. Conditions: nodes. -/
set_option maxRecDepth 100000
namespace Go.Proofs.Ytahaoodklfmddaa
open Go.RowKit Go.Maps Go.Sort Go.Shelf

/-- ahead by greatest numbers, those alike by levels -/
def ltT (x y : Nat × Int) : Bool := decide (gr x.1 < gr y.1 ∨ gr x.1 = gr y.1 ∧ x.1 / 18446744073709551616 < y.1 / 18446744073709551616)
theorem ltT_G {x y : Nat × Int} (hx : NodeC x.1) (hy : NodeC y.1) : ltT x y = ltG x y := by
  unfold ltT ltG
  refine decide_eq_decide.2 ?_
  refine or_congr Iff.rfl (and_congr_right fun e => ⟨fun h => by omega, fun h => ?_⟩)
  unfold gr at e
  rw [asN_eq hx, asN_eq hy] at e
  rcases Nat.lt_trichotomy (x.1 / 18446744073709551616) (y.1 / 18446744073709551616) with g | g | g
  · exact g
  · exfalso
    rw [g] at e
    have p2 : 0 < 2 ^ (y.1 / 18446744073709551616) := Nat.two_pow_pos _
    have e2 : x.1 % 18446744073709551616 * 2 ^ (y.1 / 18446744073709551616) = y.1 % 18446744073709551616 * 2 ^ (y.1 / 18446744073709551616) := by omega
    have e3 := Nat.eq_of_mul_eq_mul_right p2 e2
    omega
  · omega
/-- one put to its place -/
def insT (x : Nat × Int) : DL → DL
  | [] => [x]
  | y :: r => if ltT x y then x :: y :: r else y :: insT x r
def insS (x : Nat × Int) (s : DL × Bool) (y : Nat × Int) : DL × Bool := if s.2 = false ∧ ltT x y = true then ((s.1 ++ [x]) ++ [y], true) else (s.1 ++ [y], s.2)
def insF (x : Nat × Int) (s : DL × Bool) : DL := if s.2 then s.1 else s.1 ++ [x]
theorem insS_done (x : Nat × Int) : ∀ (l acc : DL), l.foldl (insS x) (acc, true) = (acc ++ l, true)
  | [], acc => by simp
  | y :: r, acc => by
    have e : insS x (acc, true) y = (acc ++ [y], true) := by unfold insS; rw [if_neg (by simp)]
    rw [List.foldl_cons, e, insS_done x r]
    simp
theorem insF_acc (x : Nat × Int) : ∀ (l acc : DL), insF x (l.foldl (insS x) (acc, false)) = acc ++ insT x l
  | [], acc => by simp [insF, insT]
  | y :: r, acc => by
    by_cases h : ltT x y = true
    · have e : insS x (acc, false) y = ((acc ++ [x]) ++ [y], true) := by unfold insS; rw [if_pos ⟨rfl, h⟩]
      rw [List.foldl_cons, e, insS_done x r]
      conv => rhs; unfold insT
      rw [if_pos h]
      simp [insF]
    · have e : insS x (acc, false) y = (acc ++ [y], false) := by unfold insS; rw [if_neg (fun k => h k.2)]
      rw [List.foldl_cons, e, insF_acc x r]
      conv => rhs; unfold insT
      rw [if_neg h]
      simp
theorem insF_eq (x : Nat × Int) (l : DL) : insF x (l.foldl (insS x) ([], false)) = insT x l := by rw [insF_acc]; simp
theorem insT_perm (x : Nat × Int) : ∀ l : DL, (insT x l).Perm (x :: l)
  | [] => List.Perm.refl _
  | y :: r => by
    unfold insT
    split
    · exact List.Perm.refl _
    · exact ((insT_perm x r).cons y).trans (List.Perm.swap x y r)
theorem insT_len (x : Nat × Int) (l : DL) : (insT x l).length = l.length + 1 := (insT_perm x l).length_eq
theorem insT_sorted {x : Nat × Int} : ∀ {l : DL}, NodeC x.1 → (∀ q ∈ l, NodeC q.1) → l.Pairwise (fun a b => ltG b a = false) → (insT x l).Pairwise fun a b => ltG b a = false
  | [], _, _, _ => List.pairwise_singleton _ _
  | y :: r, hx, hl, h => by
    have h1 := List.pairwise_cons.1 h
    have hy := hl y (List.mem_cons_self ..)
    unfold insT
    rw [ltT_G hx hy]
    split
    · rename_i g
      rw [ltG_iff] at g
      refine List.pairwise_cons.2 ⟨fun z hz => ?_, h⟩
      rcases List.mem_cons.1 hz with rfl | hz
      · rw [ltG_no]; omega
      · have := h1.1 z hz
        rw [ltG_no] at this ⊢
        omega
    · rename_i g
      refine List.pairwise_cons.2 ⟨fun z hz => ?_, insT_sorted hx (fun q hq => hl q (List.mem_cons_of_mem _ hq)) h1.2⟩
      rcases List.mem_cons.1 ((insT_perm x r).mem_iff.1 hz) with rfl | hz
      · simpa using g
      · exact h1.1 z hz
def rsort (L : DL) : DL := L.foldl (fun l x => insT x l) []
theorem rsort_acc : ∀ (L acc : DL), (∀ q ∈ L, NodeC q.1) → (∀ q ∈ acc, NodeC q.1) → acc.Pairwise (fun a b => ltG b a = false) → (L.foldl (fun l x => insT x l) acc).Perm (L ++ acc) ∧ (L.foldl (fun l x => insT x l) acc).Pairwise fun a b => ltG b a = false
  | [], acc, _, _, h => ⟨List.Perm.refl _, h⟩
  | x :: r, acc, hL, ha, h => by
    have hx := hL x (List.mem_cons_self ..)
    have h2 := rsort_acc r (insT x acc) (fun q hq => hL q (List.mem_cons_of_mem _ hq)) (fun q hq => by
      rcases List.mem_cons.1 ((insT_perm x acc).mem_iff.1 hq) with rfl | hq
      · exact hx
      · exact ha q hq) (insT_sorted hx ha h)
    rw [List.foldl_cons]
    exact ⟨h2.1.trans (((insT_perm x acc).append_left r).trans List.perm_middle), h2.2⟩
theorem rsort_ranked {L : DL} (hL : ∀ q ∈ L, NodeC q.1) : RankedG L (rsort L) := by
  have h := rsort_acc L [] hL (fun q hq => by cases hq) List.Pairwise.nil
  rw [List.append_nil] at h
  exact ⟨h.1, h.2⟩
theorem rsort_len (L : DL) : ∀ acc : DL, (L.foldl (fun l x => insT x l) acc).length = acc.length + L.length := by
  induction L with
  | nil => intro acc; rfl
  | cons x r ih =>
    intro acc
    rw [List.foldl_cons, ih, insT_len, List.length_cons]
    omega
/-- what stands by greatest numbers is one -/
theorem RankedG.one {L A B : DL} (hL : DAsc L) (h : RankedG L A) (g : RankedG L B) : A = B := by
  refine List.Perm.eq_of_pairwise (le := fun a b => ltG b a = false) (fun a b ha hb h1 h2 => ?_) h.order g.order (h.perm.trans g.perm.symm)
  rw [ltG_no] at h1 h2
  have e : a.1 = b.1 := by omega
  have ma := dcnt_mem hL (id := a.1) (c := a.2) (h.perm.mem_iff.1 ha)
  have mb := dcnt_mem hL (id := b.1) (c := b.2) (g.perm.mem_iff.1 hb)
  rw [e] at ma
  exact Prod.ext e (ma.symm.trans mb)
end Go.Proofs.Ytahaoodklfmddaa
