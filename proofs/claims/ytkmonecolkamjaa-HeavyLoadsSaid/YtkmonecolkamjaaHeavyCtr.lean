/- Contracts of heavy's made and Counters: the counters by id, in memory of the call's own. Conditions: a sketch that was made. -/
import Derived.Test.YtkmonecolkamjaaHeavySk
import Derived.Test.YtkmonecolkamjaaShelf
import Derived.Outline
set_option maxRecDepth 100000
namespace Go.Proofs.Ytkmonecolkamjaa
open Go.RowKit Go.Maps Go.Sort Go.Shelf

theorem made_yes {w : World} {p m : Nat} (h : w.cell? ⟨p, 0, none⟩ = some (.int .i64 m)) (h1 : 1 ≤ m) :
    Calls Try.prog 26 #[.pointer (some ⟨p, 0, none⟩)] w fun e w' => e = .returned (.bool true) ∧ w = w' := by
  have h2 : 0 < m := h1
  clear h1
  go_enter Try.func26, Try.ntmps26
  go_wp2_with fail
  go_ret
  exact ⟨rfl, rfl⟩

/-- the comparison by id -/
def cfId (x y : Int × Int) : Int := Lib.compareInt x.1 y.1
theorem lt_id (x y : Int × Int) : ltOf cfId x y = decide (x.1 < y.1) := by
  unfold ltOf cfId Lib.compareInt
  by_cases h1 : x.1 < y.1
  · simp [h1]
  · by_cases h2 : y.1 < x.1 <;> simp [h1, h2]
theorem swo_id : SWO (ltOf cfId) where
  irrefl x := by rw [lt_id]; simp
  trans x y z h1 h2 := by rw [lt_id] at *; simp at *; omega
  ntrans x y z h1 h2 := by rw [lt_id] at *; simp at *; omega
set_option maxHeartbeats 1000000 in
theorem closId (x y : Int × Int) (W : World) : Calls Try.prog 41 #[.agg #[.int .i64 x.1, .int .i64 x.2], .agg #[.int .i64 y.1, .int .i64 y.2]] W fun e w' => e = .returned (.int .i64 (cfId x y)) ∧ ∃ q os', w' = grow (W.drewN q) os' := by
  have hcon := fun W' => Try.cmp_Compare_int x.1 y.1 W'
  unfold cfId
  generalize Lib.compareInt x.1 y.1 = r at hcon ⊢
  go_enter Try.func41, Try.ntmps41
  go_wp2_with fail
  refine (hcon _).mono ?_
  rintro e w' ⟨rfl, rfl⟩
  go_wp2_with fail
  go_ret
  exact ⟨rfl, 0, _, by rw [alloc_eq_grow, alloc_eq_grow, grow_grow]; rfl⟩

/-- two lists that rise and have the same counters are one -/
theorem asc_eq : ∀ {L L' : CL}, Asc L → Asc L' → (∀ p, p ∈ L ↔ p ∈ L') → L = L'
  | [], [], _, _, _ => rfl
  | [], q :: r, _, _, h => absurd ((h q).2 (List.mem_cons_self ..)) (by simp)
  | p :: r, [], _, _, h => absurd ((h p).1 (List.mem_cons_self ..)) (by simp)
  | p :: r, q :: s, hA, hB, h => by
    have h1 := asc_head hA
    have h2 := asc_head hB
    have e : p = q := by
      rcases List.mem_cons.1 ((h p).1 (List.mem_cons_self ..)) with e | e
      · exact e
      · rcases List.mem_cons.1 ((h q).2 (List.mem_cons_self ..)) with e' | e'
        · exact e'.symm
        · have := h2 p e
          have := h1 q e'
          omega
    subst e
    have := asc_eq (L := r) (L' := s) (asc_tail hA) (asc_tail hB) fun x => by
      constructor
      · intro hx
        rcases List.mem_cons.1 ((h x).1 (List.mem_cons_of_mem _ hx)) with e | e
        · subst e; exact absurd (h1 _ hx) (by omega)
        · exact e
      · intro hx
        rcases List.mem_cons.1 ((h x).2 (List.mem_cons_of_mem _ hx)) with e | e
        · subst e; exact absurd (h2 _ hx) (by omega)
        · exact e
    rw [this]

theorem sort_ids {w : World} {g c : Nat} {xs L : CL} (hR : RowP w g xs) (hA : Asc L) (hn : xs.Nodup) (hm : ∀ p, p ∈ xs ↔ p ∈ L) (hl : xs.length ≤ 1000000) :
    Calls Try.prog 40 #[.slice (some ⟨g, 0, none⟩) xs.length c, .func (.func 41) #[] #[]] w fun e w' =>
      e = .returned (.tuple #[]) ∧ RowP w' g L ∧ w.grownBy w' (some g) ∧ L.length = xs.length := by
  have eg : ∀ args w, (callFunc 41 args).run Try.prog w = .ok (.enter 41 args) w := enters_of Try.func41 (by kernel_rfl) rfl
  have hC : CmpLays Try.prog 41 #[] encP 2 cfId g 0 xs.toArray.size w := fun m os dk _ x y => by
    have := closId x y (sortWorldK encP 2 w g 0 m dk os)
    simpa [encP] using this
  have h := AnyQ.slices_SortFunc Try.sortCounter 2 Try.isAgg50 Try.sizeOf50 encP encP_len encP_one cfId swo_id 41 #[] g 0 c xs.toArray w eg hC hR.1 hR.2 (by simp; omega)
  have e0 : xs.toArray.size = xs.length := by simp
  rw [e0] at h
  refine h.mono ?_
  rintro e w' ⟨rfl, d', n, os, hp, hs, hw⟩
  have hd : d'.size = xs.length := by rw [hp.1, e0]
  have hperm : d'.toList.Perm xs := by
    have := hp.2.2
    rw [← hd] at this
    simp only [Array.extract_size] at this
    rw [hd] at this
    have e1 : xs.toArray.extract 0 xs.length = xs.toArray := by rw [← e0]; simp
    rw [e1] at this
    exact this
  have hasc : Asc d'.toList := by
    refine List.pairwise_iff_getElem.2 fun i j hi hj hij => ?_
    have h1 := hs i j (Nat.zero_le _) hij (by simp at hj; omega)
    have e1 : d'[i]! = d'.toList[i] := by rw [getElem!_pos d' i (by simpa using hi)]; simp
    have e2 : d'[j]! = d'.toList[j] := by rw [getElem!_pos d' j (by simpa using hj)]; simp
    rw [e1, e2, lt_id] at h1
    simp at h1
    have hnd : d'.toList.Nodup := hperm.nodup_iff.2 hn
    have hne : d'.toList[i] ≠ d'.toList[j] := fun e => by
      have := (List.nodup_iff_pairwise_ne.1 hnd)
      exact List.pairwise_iff_getElem.1 this i j hi hj hij e
    have m1 : d'.toList[i] ∈ L := (hm _).1 (hperm.mem_iff.1 (List.getElem_mem hi))
    have m2 : d'.toList[j] ∈ L := (hm _).1 (hperm.mem_iff.1 (List.getElem_mem hj))
    rcases Int.lt_or_eq_of_le h1 with g1 | g1
    · simpa using g1
    · exfalso
      apply hne
      have c1 := cnt_mem hA (id := (d'.toList[i]).1) (c := (d'.toList[i]).2) m1
      have c2 := cnt_mem hA (id := (d'.toList[j]).1) (c := (d'.toList[j]).2) m2
      refine Prod.ext (by simpa using g1) ?_
      rw [← c1, ← c2]
      congr 1
  have heq : d'.toList = L := asc_eq hasc hA fun p => by rw [hperm.mem_iff, hm]
  have hlen : L.length = xs.length := by rw [← heq]; simpa using hd
  have hSW : SWK encP 2 w g 0 L.toArray w' := ⟨n, os, by rw [hw, ← heq]⟩
  obtain ⟨r1, r2⟩ := row_of_swk hR hSW hlen
  exact ⟨rfl, r1, r2, hlen⟩

theorem info_ctr : (Try.prog.info? 50).map (fun i => (i.zero, i.size, i.bytes)) = some (some (.agg #[.int .i64 0, .int .i64 0]), 2, 16) := by kernel_rfl
/-- a counter more, behind a row of the call's own -/
theorem app_ctr {w : World} {B : Nat} {v : Value} {xs : CL} (hown : w.ownsRow B 50 2 v xs.length (flatP xs)) (hB : B ≤ w.heap.size) (hv : v ≠ .slice none 0 0) (x c : Int) (hl : xs.length ≤ 1000000) :
    ∃ v' w', (∀ ty, (Builtin.append_ #[47, 47] ty #[v, .slice (some ⟨w.heap.size, 0, none⟩) 1 1]).run Try.prog (w.alloc (.cells #[.int .i64 x, .int .i64 c] 50)) = .ok v' w') ∧
      w'.ownsRow B 50 2 v' (xs ++ [(x, c)]).length (flatP (xs ++ [(x, c)])) ∧ w.grownBy w' v.ownBlock ∧ v' ≠ .slice none 0 0 := by
  obtain ⟨i, hi, hz0, hz1, hz2⟩ := info_parts info_ctr
  have hown' : (w.alloc (.cells #[.int .i64 x, .int .i64 c] 50)).ownsRow B 50 2 v xs.length (flatP xs) := hown.alloc _
  obtain ⟨v', w', hr, h2, h3, h4⟩ := run_append_own (P := Try.prog) (w := w.alloc (.cells #[.int .i64 x, .int .i64 c] 50)) B 47 0 50 i (.agg #[.int .i64 0, .int .i64 0]) 2 16 Try.underlying47 hi hz0 hz1 hz2 rfl (by omega) v xs.length (flatP xs) hown'
    ⟨w.heap.size, 0, none⟩ 1 1 [.int .i64 x, .int .i64 c] rfl (fun j u hj => by
      rw [Addr.add_at, Nat.zero_add, cell_of_row _ _ _ _ _ _ (heap_alloc_new w _)]
      simpa using hj) (fun u hu => by simp at hu; rcases hu with rfl | rfl <;> rfl) (by unfold maxLen; omega) (by omega) (by simp; omega)
  refine ⟨v', w', fun ty => hr, ?_, (World.grownBy_alloc w _ v.ownBlock).andThen h3 (fun j hj => .inr hj), fun e => hv (h4.1 e).1⟩
  rw [flatP_snoc, List.length_append]
  exact h2

/-- what the loop over the map has gathered -/
structure Gath (L xs : CL) (left : Lit → Bool) : Prop where
  nodup : xs.Nodup
  sub : ∀ p ∈ xs, p ∈ L
  rest : ∀ p ∈ L, left (.int .i64 p.1) = false → p ∈ xs
  not_ : ∀ p ∈ xs, left (.int .i64 p.1) = false
theorem Gath.step {L xs : CL} {left : Lit → Bool} (h : Gath L xs left) (hA : Asc L) {x c : Int} (hm : (x, c) ∈ L) (hl : left (.int .i64 x) = true) : Gath L (xs ++ [(x, c)]) (fun z => left z && !z.sameKey (.int .i64 x)) where
  nodup := by
    refine List.nodup_append.2 ⟨h.nodup, by simp, fun a ha b hb => ?_⟩
    simp at hb
    subst hb
    rintro rfl
    have := h.not_ _ ha
    rw [hl] at this; cases this
  sub := fun p hp => by
    rcases List.mem_append.1 hp with hp | hp
    · exact h.sub p hp
    · simp at hp; subst hp; exact hm
  rest := fun p hp hl' => by
    simp only [same_int] at hl'
    by_cases e : p.1 = x
    · have : p = (x, c) := Prod.ext e (by have h1 := cnt_mem hA (id := p.1) (c := p.2) hp; have h2 := cnt_mem hA hm; rw [e, h2] at h1; exact h1.symm)
      subst this; simp
    · simp [e] at hl'
      exact List.mem_append_left _ (h.rest p hp hl')
  not_ := fun p hp => by
    rcases List.mem_append.1 hp with hp | hp
    · simp [h.not_ p hp]
    · simp at hp; subst hp; simp [same_int]
theorem Gath.start (L : CL) : Gath L [] (has (mapD L)) := ⟨List.nodup_nil, (fun p hp => by cases hp), (fun p hp hl => by
  rw [has_mapD] at hl
  have : (L.any fun q => decide (q.1 = p.1)) = true := List.any_eq_true.2 ⟨p, hp, by simp⟩
  rw [this] at hl; cases hl), (fun p hp => by cases hp)⟩
theorem nodup_len {α : Type} [DecidableEq α] : ∀ (xs L : List α), xs.Nodup → (∀ p ∈ xs, p ∈ L) → xs.length ≤ L.length
  | [], _, _, _ => Nat.zero_le _
  | x :: r, L, hn, hs => by
    have hx := hs x (List.mem_cons_self ..)
    have hn' := List.nodup_cons.1 hn
    have := nodup_len r (L.erase x) hn'.2 fun p hp => (List.mem_erase_of_ne (fun e => by subst e; exact hn'.1 hp)).2 (hs p (List.mem_cons_of_mem _ hp))
    rw [List.length_erase_of_mem hx] at this
    have := List.length_pos_of_mem hx
    rw [List.length_cons]; omega
theorem Gath.end {L xs : CL} {left : Lit → Bool} (h : Gath L xs left) (hl : ∀ kl, left kl = false) : ∀ p, p ∈ xs ↔ p ∈ L := fun p => ⟨h.sub p, fun hp => h.rest p hp (hl _)⟩
theorem Gath.len {L xs : CL} {left : Lit → Bool} (h : Gath L xs left) : xs.length ≤ L.length := nodup_len xs L h.nodup h.sub

/-- the counters by id, in memory of the call's own -/
def CtrAt (w : World) (L : CL) (e : Ending) (w' : World) : Prop := ∃ g c, e = .returned (.slice (some ⟨g, 0, none⟩) L.length c) ∧ w.heap.size ≤ g ∧ L.length ≤ c ∧ RowP w' g L ∧ Below w.heap.size w w'

set_option maxHeartbeats 4000000 in
theorem counters_at {w : World} {p m b : Nat} {L : CL} (c0 : w.cell? ⟨p, 0, none⟩ = some (.int .i64 m)) (h1 : 1 ≤ m) (c2 : w.cell? ⟨p, 2, none⟩ = some (.map (some b))) (hM : MapAt w b L) (hl : L.length ≤ 100000) :
    Calls Try.prog 22 #[.pointer (some ⟨p, 0, none⟩)] w (CtrAt w L) := by
  have KM := made_yes c0 h1
  have hlen := hM.len
  have hb := hM.lt
  obtain ⟨i0, hi, hz0, hz1, hz2⟩ := info_parts info_ctr
  have hmk : ∀ W, (Instr.makeSlice 47 (.int .i64 0) (.int .i64 (L.length : Int))).run Try.prog W = .ok (.slice (some ⟨W.heap.size, 0, none⟩) 0 L.length) (W.alloc (.cells (madeCells (Value.agg #[.int .i64 0, .int .i64 0]).cells (L.length * 2)) 50)) := fun W => by
    have := run_make (P := Try.prog) W 47 50 i0 (.agg #[.int .i64 0, .int .i64 0]) Try.underlying47 hi hz0 .i64 .i64 0 L.length (by omega) (by omega) (by rw [hz2]; omega) (by omega)
    rw [this, hz1]
    rfl
  have HM := Lib.hid hM
  have HL := Lib.hid hl
  clear hM h1 c0 hi hz0 hz1 hz2 hl
  go_enter Try.func22, Try.ntmps22
  go_wp2_with fail
  refine KM.mono ?_
  rintro e w' ⟨rfl, rfl⟩
  clear KM
  obtain ⟨cs, hcs⟩ : ∃ cs, madeCells (Value.agg #[.int .i64 0, .int .i64 0]).cells (L.length * 2) = cs := ⟨_, rfl⟩
  have HCS := Lib.hid hcs
  simp only [hcs] at hmk
  clear hcs
  have hown : (w.alloc (.cells cs 50)).ownsMap Try.prog 3 (plainElem Try.prog 3) b L.length (mapD L) := HM.out.own.alloc _
  have c2' : (w.alloc (.cells cs 50)).cell? ⟨p, 2, none⟩ = some (.map (some b)) := by
    rw [((Below.refl _ w).alloc (Nat.le_refl _) _).cell (World.block_lt_of_cell? w _ c2)]; exact c2
  go_wp2_with (first
    | (at_range; refine wpList_range_own _ rfl _ 55 rfl 3 3 KI Try.underlying55 (plainElem Try.prog 3) b L.length _ rfl hown ?_; intro w1 hrg1 hg1 hs1)
    | fail)
  go_frame
  obtain ⟨r, hr⟩ : ∃ r, (w.alloc (.cells cs 50)).heap.size = r := ⟨_, rfl⟩
  rw [hr] at hrg1 ⊢
  have hr' : r = w.heap.size + 1 := by rw [← hr]; simp
  have B1 : Hid (Below w.heap.size w w1) := ((Below.refl _ w).alloc (Nat.le_refl _) (.cells cs 50)).grown hg1 (by simp) (fun j hj => by cases hj)
  have O1 : w1.ownsRow w.heap.size 50 2 (.slice (some ⟨w.heap.size, 0, none⟩) 0 L.length) ([] : CL).length (flatP []) := by
    refine World.ownsRow.kept ?_ hg1 (.inr (by simp [Value.ownBlock]))
    exact World.ownsRow_made w cs L.length (Nat.le_refl _) (by have := HL.out; unfold maxLen; omega) (by rw [← HCS.out]; simp [madeCells, Value.cells])
  have HG0 := Lib.hid (Gath.start L)
  have HR := Lib.hid hr'
  have HX := Lib.hid (And.intro hrg1 O1)
  clear hr hr' hg1 hs1 hrg1 O1 hown c2 c2' hlen hmk HCS
  go_loopw [3] (fun v wr => ∃ (left : Lit → Bool) (cn : Nat) (xs : CL) (g c : Nat), v = .slice (some ⟨g, 0, none⟩) xs.length c ∧ Hid (wr.ranges Try.prog 3 (plainElem Try.prog 3) b r L.length (mapD L) left cn) ∧ Hid (wr.ownsRow w.heap.size 50 2 (.slice (some ⟨g, 0, none⟩) xs.length c) xs.length (flatP xs)) ∧ Hid (Below w.heap.size w wr) ∧ Hid (Gath L xs left))
    (fun _ wr => wr.rangeLeft b r)
  case atStart => exact ⟨_, _, [], _, _, rfl, HX.out.1, HX.out.2, B1, HG0⟩
  case round =>
    clear HX B1 HG0
    obtain ⟨left, cn, xs, g, c, rfl, Hrg, Hown, HB, HG⟩ := hrel
    have hrg := Hrg.out
    go_wp2_with (first
      | (at_next; refine wpList_next_ranges_ii _ rfl _ rfl 3 3 .i64 .i64 KI Try.underlying3 Try.underlying3 b r L.length _ _ _ rfl hrg ?_ ?_)
      | fail)
    · intro _ hl0
      have K := sort_ids (c := c) (row_of_owns Hown.out) HM.out.asc HG.out.nodup (HG.out.end hl0) (by have := HG.out.len; have := HL.out; omega)
      have hcap : xs.length ≤ c := by
        rcases Hown.out.2 with ⟨e, _⟩ | ⟨g', cap, cur, e, _, _, h, _⟩
        · simp at e
        · simp at e; omega
      have hg := (Hown.out.lt g rfl).1
      have HC := Lib.hid (And.intro hcap hg)
      clear hl0 hrg hcap hg
      go_wp2_with fail
      refine K.mono ?_
      rintro e w3 ⟨rfl, hR, hgr, hlen⟩
      have HE : Hid (CtrAt w L (.returned (.slice (some ⟨g, 0, none⟩) xs.length c)) w3) := by
        refine ⟨g, c, by rw [hlen], HC.out.2, by rw [hlen]; exact HC.out.1, hR, HB.out.grown hgr HB.out.size (fun j hj => by cases hj; exact HC.out.2)⟩
      clear K hR hgr hlen
      go_wp2_with fail
      go_ret
      exact HE.out
    · intro x y w2 cn2 hwx hwc hlx hat hrg2 hlt hg2 hs2 hen
      have hm : (x, y) ∈ L := atKey_some hat
      have G2 := Lib.hid (HG.out.step HM.out.asc hm hlx)
      have hne : some r ≠ (Value.slice (some ⟨g, 0, none⟩) xs.length c).ownBlock := row_ne_iter Hown.out hrg
      have hown2 : w2.ownsRow w.heap.size 50 2 (.slice (some ⟨g, 0, none⟩) xs.length c) xs.length (flatP xs) := Hown.out.kept hg2 (.inr (fun e => hne e.symm))
      have B2 : Hid (Below w.heap.size w w2) := HB.out.grown hg2 HB.out.size (fun j hj => by cases hj; rw [HR.out]; omega)
      obtain ⟨v', w3, hrun, hown3, hgr3, hv3⟩ := app_ctr hown2 B2.out.size (by simp) x y (by have := HG.out.len; have := HL.out; omega)
      obtain ⟨g', c', rfl⟩ : ∃ g' c', v' = .slice (some ⟨g', 0, none⟩) (xs ++ [(x, y)]).length c' := by
        rcases hown3.2 with ⟨e, _⟩ | ⟨g', cap, cur, e, _⟩
        · exact absurd e hv3
        · exact ⟨g', cap, e⟩
      have hlow : some b ≠ (Value.slice (some ⟨g, 0, none⟩) xs.length c).ownBlock := row_ne_low hown2 hb
      have RG3 := Lib.hid (hrg2.kept hgr3 hlow (row_ne_iter hown2 hrg2))
      have B3 : Hid (Below w.heap.size w w3) := B2.out.grown hgr3 B2.out.size (fun j hj => (hown2.lt j hj).1)
      have O3 := Lib.hid hown3
      have HLT := Lib.hid (And.intro hlt (And.intro RG3.out.left_eq Hrg.out.left_eq))
      have HRUN := Lib.hid hrun
      clear hm hlx hat hrg2 hlt hg2 hs2 hne hown2 hown3 hgr3 hv3 hlow hrg hrun hwx hwc
      go_wp2_with (first
        | (at_builtin; refine wpList_append_run rfl _ _ 47 rfl rfl rfl (HRUN.out _) ?_)
        | fail)
      go_roundw
      case rel => exact ⟨_, cn2, xs ++ [(x, y)], g', c', by simp, RG3, O3, B3, G2⟩
      case measure => rw [HLT.out.2.1, HLT.out.2.2]; exact HLT.out.1
end Go.Proofs.Ytkmonecolkamjaa
