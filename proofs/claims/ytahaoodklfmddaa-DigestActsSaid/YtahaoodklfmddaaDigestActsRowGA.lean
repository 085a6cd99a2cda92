/- The texts DigRankC DigFewSort DigGath DigNodes DigRank, one behind the other; each one's own comment says what it holds. -/
import Derived.Test.YtahaoodklfmddaaDigG
import Derived.Test.YtahaoodklfmddaaShelf
import Derived.Shelf.SlSortCmp.WholeK
import Derived.Outline
import Derived.Test.YtahaoodklfmddaaDigCmp
/- The comparison of nodes by their greatest numbers. Conditions: none. -/
set_option maxRecDepth 100000
namespace Go.Proofs.Ytahaoodklfmddaa
open Go.RowKit Go.Maps Go.Sort

/-- a world with blocks more, and with more drawn -/
def Grew (W Z : World) : Prop := ∃ q os, Z = grow (W.drewN q) os
theorem grow_none (W : World) : W = grow W #[] := by
  unfold grow
  rw [Array.append_empty]
theorem Grew.refl (W : World) : Grew W W := ⟨0, #[], grow_none W⟩
theorem Grew.trans {A B C : World} (h : Grew A B) (k : Grew B C) : Grew A C := by
  obtain ⟨q, os, rfl⟩ := h
  obtain ⟨q', os', rfl⟩ := k
  exact ⟨q + q', os ++ os', by rw [show (grow (A.drewN q) os).drewN q' = grow ((A.drewN q).drewN q') os from rfl, World.drewN_drewN, grow_grow]⟩
theorem Grew.of_grow {A : World} (os : Array Obj) : Grew A (grow A os) := ⟨0, os, rfl⟩
theorem Grew.drew {A B : World} (h : Grew A B) : Grew A B.drew := h.trans ⟨1, #[], grow_none B.drew⟩
theorem Grew.cell {A B : World} (h : Grew A B) {a : Addr} {v : Value} (hc : A.cell? a = some v) : B.cell? a = some v := by
  obtain ⟨q, os, rfl⟩ := h
  rw [cell?_grow _ _ _ (by exact World.block_lt_of_cell? A _ hc)]
  exact hc

set_option maxHeartbeats 8000000 in
theorem closRank (x y : Nat × Int) (W : World) :
    Calls Try.prog 38 #[.agg #[.int .i64 (nA x), .int .u64 (nU x), .int .i64 x.2], .agg #[.int .i64 (nA y), .int .u64 (nU y), .int .i64 y.2]] W fun e w' => e = .returned (.int .i64 (cfG x y)) ∧ ∃ q os', w' = grow (W.drewN q) os' := by
  have PX := fun W => place_any (nA x) (nU x) x.2 W
  have PY := fun W => place_any (nA y) (nU y) y.2 W
  have GX := fun W => greatest_any (asN_node x.1).1 (asN_node x.1).2 W
  have GY := fun W => greatest_any (asN_node y.1).1 (asN_node y.1).2 W
  have KC := fun W => compare_u64 (gr x.1 : Nat) (gr y.1 : Nat) W
  unfold cfG
  generalize Lib.compareInt (gr x.1 : Nat) (gr y.1 : Nat) = r at KC ⊢
  change ∀ W, Calls Try.prog 39 #[.agg #[.int .i64 (nA x), .int .u64 (nU x)]] W (fun e w' => e = .returned (.int .u64 ((gr x.1 : Nat) : Int)) ∧ ∃ q os', w' = grow (W.drewN q) os') at GX
  change ∀ W, Calls Try.prog 39 #[.agg #[.int .i64 (nA y), .int .u64 (nU y)]] W (fun e w' => e = .returned (.int .u64 ((gr y.1 : Nat) : Int)) ∧ ∃ q os', w' = grow (W.drewN q) os') at GY
  generalize ((gr x.1 : Nat) : Int) = gx at GX KC
  generalize ((gr y.1 : Nat) : Int) = gy at GY KC
  generalize nA x = x0 at *
  generalize nU x = x1 at *
  generalize nA y = y0 at *
  generalize nU y = y1 at *
  generalize x.2 = x2 at *
  generalize y.2 = y2 at *
  obtain ⟨G, hG⟩ : ∃ G, W.heap.size = G := ⟨_, rfl⟩
  obtain ⟨V, hV⟩ : ∃ V, (W.alloc (.cells #[.int .i64 x0, .int .u64 x1, .int .i64 x2] 50)).alloc (.cells #[.int .i64 y0, .int .u64 y1, .int .i64 y2] 50) = V := ⟨_, rfl⟩
  have a0 : V.heap[G]? = some (.cells #[.int .i64 x0, .int .u64 x1, .int .i64 x2] 50 (0, 0)) := by
    rw [← hV, heap_alloc_old _ _ (by simp; omega), ← hG]
    exact heap_alloc_new W _
  have a1 : V.heap[G + 1]? = some (.cells #[.int .i64 y0, .int .u64 y1, .int .i64 y2] 50 (0, 0)) := by
    have := heap_alloc_new (W.alloc (.cells #[.int .i64 x0, .int .u64 x1, .int .i64 x2] 50)) (.cells #[.int .i64 y0, .int .u64 y1, .int .i64 y2] 50)
    rw [World.size_alloc, hG, hV] at this
    exact this
  let S : World → Prop := fun Z => Z.cell? ⟨G, 0, none⟩ = some (.int .i64 x0) ∧ Z.cell? ⟨G, 1, none⟩ = some (.int .u64 x1) ∧ Z.cell? ⟨G, 2, none⟩ = some (.int .i64 x2) ∧
    Z.cell? ⟨G + 1, 0, none⟩ = some (.int .i64 y0) ∧ Z.cell? ⟨G + 1, 1, none⟩ = some (.int .u64 y1) ∧ Z.cell? ⟨G + 1, 2, none⟩ = some (.int .i64 y2)
  have SV : S V.drew := ⟨by rw [show V.drew.cell? _ = V.cell? _ from rfl, cell_of_row _ _ _ _ _ _ a0]; rfl, by rw [show V.drew.cell? _ = V.cell? _ from rfl, cell_of_row _ _ _ _ _ _ a0]; rfl, by rw [show V.drew.cell? _ = V.cell? _ from rfl, cell_of_row _ _ _ _ _ _ a0]; rfl,
    by rw [show V.drew.cell? _ = V.cell? _ from rfl, cell_of_row _ _ _ _ _ _ a1]; rfl, by rw [show V.drew.cell? _ = V.cell? _ from rfl, cell_of_row _ _ _ _ _ _ a1]; rfl, by rw [show V.drew.cell? _ = V.cell? _ from rfl, cell_of_row _ _ _ _ _ _ a1]; rfl⟩
  have SG : Hid (∀ Z, Grew V.drew Z → S Z) := Lib.hid fun Z hg => ⟨hg.cell SV.1, hg.cell SV.2.1, hg.cell SV.2.2.1, hg.cell SV.2.2.2.1, hg.cell SV.2.2.2.2.1, hg.cell SV.2.2.2.2.2⟩
  have VG : Hid (Grew W V.drew) := by
    have h1 : V = grow W (#[.cells #[.int .i64 x0, .int .u64 x1, .int .i64 x2] 50 (0, 0)] ++ #[.cells #[.int .i64 y0, .int .u64 y1, .int .i64 y2] 50 (0, 0)]) := by rw [← hV, alloc_eq_grow, alloc_eq_grow, grow_grow]
    exact Grew.drew (by rw [h1]; exact Grew.of_grow _)
  clear a0 a1
  go_enter Try.func38, Try.ntmps38
  go_wp2_with fail
  clear hV
  refine wp_region_mix S 8 [(true, 0), (true, 3), (false, 1), (false, 2), (false, 4), (false, 5), (false, 6), (false, 7)] (by kernel_rfl) (by decide +kernel) rfl (by decide +kernel) SV ?_
  iterate 2
    refine wpMix_take (v := ?_) rfl rfl ?_ ?_
    rotate_left
    · (intro W hW; (try dsimp only [S] at hW); go_simp) <;> with_reducible rfl
    simp only [Act.put, List.setIfInBounds_toArray, List.set_cons_zero, List.set_cons_succ]
  have G0 : Hid (Grew V.drew V.drew) := Lib.hid (Grew.refl _)
  refine wpMix_run rfl ?_
  intro K hK
  go_wp2_with fail
  refine (PX _).mono ?_
  rintro e z1 ⟨rfl, q1⟩
  have G1 : Hid (Grew V.drew z1) := Lib.hid (G0.out.trans (by obtain ⟨os, rfl⟩ := q1; exact Grew.of_grow os))
  go_wp2_with fail
  refine hK.out _ _ (fun _ => SG.out _ G1.out) ?_
  clear hK K
  refine wpMix_run rfl ?_
  intro K hK
  go_wp2_with fail
  refine (GX _).mono ?_
  rintro e z2 ⟨rfl, q2⟩
  have G2 : Hid (Grew V.drew z2) := Lib.hid (G1.out.trans q2)
  go_wp2_with fail
  refine hK.out _ _ (fun _ => SG.out _ G2.out) ?_
  clear hK K
  refine wpMix_run rfl ?_
  intro K hK
  go_wp2_with fail
  refine (PY _).mono ?_
  rintro e z3 ⟨rfl, q3⟩
  have G3 : Hid (Grew V.drew z3) := Lib.hid (G2.out.trans (by obtain ⟨os, rfl⟩ := q3; exact Grew.of_grow os))
  go_wp2_with fail
  refine hK.out _ _ (fun _ => SG.out _ G3.out) ?_
  clear hK K
  refine wpMix_run rfl ?_
  intro K hK
  go_wp2_with fail
  refine (GY _).mono ?_
  rintro e z4 ⟨rfl, q4⟩
  have G4 : Hid (Grew V.drew z4) := Lib.hid (G3.out.trans q4)
  go_wp2_with fail
  refine hK.out _ _ (fun _ => SG.out _ G4.out) ?_
  clear hK K
  refine wpMix_run rfl ?_
  intro K hK
  go_wp2_with fail
  refine (KC _).mono ?_
  rintro e z5 ⟨rfl, rfl⟩
  go_wp2_with fail
  refine hK.out _ _ (fun _ => SG.out _ G4.out) ?_
  clear hK K
  refine wpMix_run rfl ?_
  intro K hK
  go_wp2_with fail
  refine hK.out _ _ (fun _ => SG.out _ G4.out) ?_
  clear hK K
  refine wpMix_nil ?_
  go_wp2_with fail
  go_ret
  exact ⟨rfl, VG.out.trans G4.out⟩
end Go.Proofs.Ytahaoodklfmddaa
/- slices.SortStableFunc at fewer than 20 nodes: one insertion sort. Conditions: few. -/
set_option maxRecDepth 100000
namespace Go.Proofs.Ytahaoodklfmddaa
open Go.RowKit Go.Maps Go.Sort Go.Shelf

theorem lt_G (x y : Nat × Int) : ltOf cfG x y = decide (gr x.1 < gr y.1) := by
  unfold ltOf cfG Lib.compareInt
  by_cases h1 : gr x.1 < gr y.1
  · simp [h1]
  · by_cases h2 : gr y.1 < gr x.1 <;> simp [h1, h2]
theorem swo_G : SWO (ltOf cfG) where
  irrefl x := by rw [lt_G]; simp
  trans x y z h1 h2 := by rw [lt_G] at *; simp at *; omega
  ntrans x y z h1 h2 := by rw [lt_G] at *; simp at *; omega

set_option maxHeartbeats 4000000 in
theorem stable_few {w : World} {g c : Nat} {xs : DL} (hH : HoldsK encG 3 w g 0 xs.toArray) (hg : g < w.heap.size) (hl : xs.length < 20) :
    Calls Try.prog 37 #[.slice (some ⟨g, 0, none⟩) xs.length c, .func (.func 38) #[] #[]] w fun e w' =>
      e = .returned (.tuple #[]) ∧ Hid (SWK encG 3 w g 0 (insertionSort (ltOf cfG) xs.toArray 0 xs.length) w') := by
  have eg : ∀ args w, (callFunc 38 args).run Try.prog w = .ok (.enter 38 args) w := enters_of Try.func38 (by kernel_rfl) rfl
  have hC : CmpLays Try.prog 38 #[] encG 3 cfG g 0 xs.toArray.size w := fun m os dk _ x y => by
    have := closRank x y (sortWorldK encG 3 w g 0 m dk os)
    simpa [encG_form] using this
  have L : SlLaysF0.n20 Try.prog Try.sortNode_ren := { Try.sortNode with }
  have e0 : xs.toArray.size = xs.length := by simp
  have KI := AnyQ.insertionSortCmpFunc L 3 Try.isAgg50 Try.sizeOf50 encG encG_len encG_one cfG 38 #[] g 0 c 0 xs.length xs.toArray w eg hC hH hg (Nat.zero_le _) (by omega) (by omega)
  rw [e0] at KI
  obtain ⟨n, hn⟩ : ∃ n, xs.length = n := ⟨_, rfl⟩
  rw [hn] at KI hl ⊢
  have t1 : ¬ (20 : Int) ≤ (n : Int) := by omega
  have t2 : ¬ (20 : Int) < (n : Int) := by omega
  clear L hC eg hH hg
  have KS : Calls Try.prog 55 #[.slice (some ⟨g, 0, none⟩) n c, .int .i64 n, .func (.func 38) #[] #[]] w fun e w' => e = .returned (.tuple #[]) ∧ Hid (SWK encG 3 w g 0 (insertionSort (ltOf cfG) xs.toArray 0 n) w') := by
    go_enter Try.func55, Try.ntmps55
    go_wp2_with fail
    refine wp_loop_rounds 1 ?_
    rw [rounds_succ]
    go_wp2_with fail
    refine KI.mono ?_
    rintro e w' ⟨rfl, hS⟩
    have HS : Hid (SWK encG 3 w g 0 (insertionSort (ltOf cfG) xs.toArray 0 n) w') := hS
    clear KI hS
    go_wp2_with fail
    refine wp_loop_rounds 1 ?_
    rw [rounds_succ]
    go_wp2_with fail
    go_end0
    exact ⟨rfl, HS⟩
  clear KI
  go_enter Try.func37, Try.ntmps37
  go_wp2_with fail
  refine KS.mono ?_
  rintro e w' ⟨rfl, HS⟩
  clear KS
  go_wp2_with fail
  go_end0
  exact ⟨rfl, HS⟩
end Go.Proofs.Ytahaoodklfmddaa
/- Sorting nodes, a node more in a row, a loop over the digest's map. Conditions: none. -/
set_option maxRecDepth 100000
namespace Go.Proofs.Ytahaoodklfmddaa
open Go.RowKit Go.Maps Go.Sort Go.Shelf

/-- two lists that rise and have the same counters are one -/
theorem dasc_eq : ∀ {L L' : DL}, DAsc L → DAsc L' → (∀ p, p ∈ L ↔ p ∈ L') → L = L'
  | [], [], _, _, _ => rfl
  | [], q :: r, _, _, h => absurd ((h q).2 (List.mem_cons_self ..)) (by simp)
  | p :: r, [], _, _, h => absurd ((h p).1 (List.mem_cons_self ..)) (by simp)
  | p :: r, q :: s, hA, hB, h => by
    have h1 := dasc_head hA
    have h2 := dasc_head hB
    have e : p = q := by
      rcases List.mem_cons.1 ((h p).1 (List.mem_cons_self ..)) with e | e
      · exact e
      · rcases List.mem_cons.1 ((h q).2 (List.mem_cons_self ..)) with e' | e'
        · exact e'.symm
        · have := h2 p e
          have := h1 q e'
          omega
    subst e
    have := dasc_eq (L := r) (L' := s) (dasc_tail hA) (dasc_tail hB) fun x => by
      constructor
      · intro hx
        rcases List.mem_cons.1 ((h x).1 (List.mem_cons_of_mem _ hx)) with e | e
        · subst e; exact absurd (h1 _ hx) (by omega)
        · exact e
      · intro hx
        rcases List.mem_cons.1 ((h x).2 (List.mem_cons_of_mem _ hx)) with e | e
        · subst e; exact absurd (h2 _ hx) (by omega)
        · exact e
    rw [this]

theorem sort_nodes {w : World} {g c : Nat} {xs L : DL} (hR : RowN w g xs) (hA : DAsc L) (hn : xs.Nodup) (hm : ∀ p, p ∈ xs ↔ p ∈ L) (hl : xs.length ≤ 1000000) :
    Calls Try.prog 32 #[.slice (some ⟨g, 0, none⟩) xs.length c, .func (.func 33) #[] #[]] w fun e w' =>
      e = .returned (.tuple #[]) ∧ RowN w' g L ∧ w.grownBy w' (some g) ∧ L.length = xs.length := by
  have eg : ∀ args w, (callFunc 33 args).run Try.prog w = .ok (.enter 33 args) w := enters_of Try.func33 (by kernel_rfl) rfl
  have hC : CmpLays Try.prog 33 #[] encN 3 cfN g 0 xs.toArray.size w := fun m os dk _ x y => by
    have := closNode x y (sortWorldK encN 3 w g 0 m dk os)
    simpa [encN] using this
  have h := AnyQ.slices_SortFunc Try.sortNode 3 Try.isAgg50 Try.sizeOf50 encN encN_len encN_one cfN swo_N 33 #[] g 0 c xs.toArray w eg hC hR.1 hR.2 (by simp; omega)
  have e0 : xs.toArray.size = xs.length := by simp
  rw [e0] at h
  refine h.mono ?_
  rintro e w' ⟨rfl, d', n, os, hp, hs, hw⟩
  have hd : d'.size = xs.length := by rw [hp.1, e0]
  have hperm : d'.toList.Perm xs := by
    have := hp.2.2
    rw [← hd] at this
    simp only [Array.extract_size] at this
    rw [hd] at this
    have e1 : xs.toArray.extract 0 xs.length = xs.toArray := by rw [← e0]; simp
    rw [e1] at this
    exact this
  have hasc : DAsc d'.toList := by
    refine List.pairwise_iff_getElem.2 fun i j hi hj hij => ?_
    have h1 := hs i j (Nat.zero_le _) hij (by simp at hj; omega)
    have e1 : d'[i]! = d'.toList[i] := by rw [getElem!_pos d' i (by simpa using hi)]; simp
    have e2 : d'[j]! = d'.toList[j] := by rw [getElem!_pos d' j (by simpa using hj)]; simp
    rw [e1, e2, lt_N] at h1
    simp at h1
    have hnd : d'.toList.Nodup := hperm.nodup_iff.2 hn
    have hne : d'.toList[i] ≠ d'.toList[j] := fun e => by
      have := (List.nodup_iff_pairwise_ne.1 hnd)
      exact List.pairwise_iff_getElem.1 this i j hi hj hij e
    have m1 : d'.toList[i] ∈ L := (hm _).1 (hperm.mem_iff.1 (List.getElem_mem hi))
    have m2 : d'.toList[j] ∈ L := (hm _).1 (hperm.mem_iff.1 (List.getElem_mem hj))
    rcases Nat.lt_or_eq_of_le h1 with g1 | g1
    · simpa using g1
    · exfalso
      apply hne
      have c1 := dcnt_mem hA (id := (d'.toList[i]).1) (c := (d'.toList[i]).2) m1
      have c2 := dcnt_mem hA (id := (d'.toList[j]).1) (c := (d'.toList[j]).2) m2
      refine Prod.ext (by simpa using g1) ?_
      rw [← c1, ← c2]
      congr 1
  have heq : d'.toList = L := dasc_eq hasc hA fun p => by rw [hperm.mem_iff, hm]
  have hlen : L.length = xs.length := by rw [← heq]; simpa using hd
  have hSW : SWK encN 3 w g 0 L.toArray w' := ⟨n, os, by rw [hw, ← heq]⟩
  obtain ⟨r1, r2⟩ := rowN_of_swk hR hSW hlen
  exact ⟨rfl, r1, r2, hlen⟩

theorem info_node : (Try.prog.info? 50).map (fun i => (i.zero, i.size, i.bytes)) = some (some (.agg #[.int .i64 0, .int .u64 0, .int .i64 0]), 3, 24) := by kernel_rfl
/-- a node more, behind a row of the call's own -/
theorem app_node {w : World} {B : Nat} {v : Value} {xs : DL} (hown : w.ownsRow B 50 3 v xs.length (flatN xs)) (hB : B ≤ w.heap.size) (hv : v ≠ .slice none 0 0) (id : Nat) (a u c : Int)
    (ha : a = ((id / 18446744073709551616 : Nat) : Int)) (hu : u = ((id % 18446744073709551616 : Nat) : Int)) (hl : xs.length ≤ 1000000) :
    ∃ v' w', (∀ ty, (Builtin.append_ #[47, 47] ty #[v, .slice (some ⟨w.heap.size, 0, none⟩) 1 1]).run Try.prog (w.alloc (.cells #[.int .i64 a, .int .u64 u, .int .i64 c] 50)) = .ok v' w') ∧
      w'.ownsRow B 50 3 v' (xs ++ [(id, c)]).length (flatN (xs ++ [(id, c)])) ∧ w.grownBy w' v.ownBlock ∧ v' ≠ .slice none 0 0 := by
  obtain ⟨i, hi, hz0, hz1, hz2⟩ := info_parts info_node
  have hown' : (w.alloc (.cells #[.int .i64 a, .int .u64 u, .int .i64 c] 50)).ownsRow B 50 3 v xs.length (flatN xs) := hown.alloc _
  obtain ⟨v', w', hr, h2, h3, h4⟩ := run_append_own (P := Try.prog) (w := w.alloc (.cells #[.int .i64 a, .int .u64 u, .int .i64 c] 50)) B 47 0 50 i (.agg #[.int .i64 0, .int .u64 0, .int .i64 0]) 3 24 Try.underlying47 hi hz0 hz1 hz2 rfl (by omega) v xs.length (flatN xs) hown'
    ⟨w.heap.size, 0, none⟩ 1 1 [.int .i64 a, .int .u64 u, .int .i64 c] rfl (fun j u' hj => by
      rw [Addr.add_at, Nat.zero_add, cell_of_row _ _ _ _ _ _ (heap_alloc_new w _)]
      simpa using hj) (fun u' hu' => by simp at hu'; rcases hu' with rfl | rfl | rfl <;> rfl) (by unfold maxLen; omega) (by omega) (by simp; omega)
  refine ⟨v', w', fun ty => hr, ?_, (World.grownBy_alloc w _ v.ownBlock).andThen h3 (fun j hj => .inr hj), fun e => hv (h4.1 e).1⟩
  rw [flatN_snoc, List.length_append]
  subst ha hu
  exact h2

/-- what the loop over the map has gathered -/
structure GathP (L xs : DL) (left : Lit → Bool) : Prop where
  nodup : xs.Nodup
  sub : ∀ p ∈ xs, p ∈ L
  rest : ∀ p ∈ L, left (kL p.1) = false → p ∈ xs
  not_ : ∀ p ∈ xs, left (kL p.1) = false
theorem GathP.step {L xs : DL} {left : Lit → Bool} (h : GathP L xs left) (hA : DAsc L) (hI : AllIn L) {x : Nat} {c : Int} (hm : (x, c) ∈ L) (hl : left (kL x) = true) : GathP L (xs ++ [(x, c)]) (fun z => left z && !z.sameKey (kL x)) where
  nodup := by
    refine List.nodup_append.2 ⟨h.nodup, by simp, fun a ha b hb => ?_⟩
    simp at hb
    subst hb
    rintro rfl
    have := h.not_ _ ha
    rw [hl] at this; cases this
  sub := fun p hp => by
    rcases List.mem_append.1 hp with hp | hp
    · exact h.sub p hp
    · simp at hp; subst hp; exact hm
  rest := fun p hp hl' => by
    simp only [kL_same (hI p hp) (hI _ hm)] at hl'
    by_cases e : p.1 = x
    · have : p = (x, c) := Prod.ext e (by have h1 := dcnt_mem hA (id := p.1) (c := p.2) hp; have h2 := dcnt_mem hA hm; rw [e, h2] at h1; exact h1.symm)
      subst this; simp
    · simp [e] at hl'
      exact List.mem_append_left _ (h.rest p hp hl')
  not_ := fun p hp => by
    rcases List.mem_append.1 hp with hp | hp
    · simp [h.not_ p hp]
    · simp at hp; subst hp; simp [kL_same (hI _ hm) (hI _ hm)]
theorem has_mapP {L : DL} (hI : AllIn L) {p : Nat × Int} (hp : p ∈ L) : has (mapP L) (kL p.1) = true := by
  show (L.map dent).any (fun q => q.1.sameKey (kL p.1)) = true
  exact List.any_eq_true.2 ⟨dent p, List.mem_map.2 ⟨p, hp, rfl⟩, by show (kL p.1).sameKey (kL p.1) = true; rw [kL_same (hI p hp) (hI p hp)]; simp⟩
theorem GathP.start {L : DL} (hI : AllIn L) : GathP L [] (has (mapP L)) := ⟨List.nodup_nil, (fun p hp => by cases hp), (fun p hp hl => by
  rw [has_mapP hI hp] at hl; cases hl), (fun p hp => by cases hp)⟩
theorem nodup_len {α : Type} [DecidableEq α] : ∀ (xs L : List α), xs.Nodup → (∀ p ∈ xs, p ∈ L) → xs.length ≤ L.length
  | [], _, _, _ => Nat.zero_le _
  | x :: r, L, hn, hs => by
    have hx := hs x (List.mem_cons_self ..)
    have hn' := List.nodup_cons.1 hn
    have := nodup_len r (L.erase x) hn'.2 fun p hp => (List.mem_erase_of_ne (fun e => by subst e; exact hn'.1 hp)).2 (hs p (List.mem_cons_of_mem _ hp))
    rw [List.length_erase_of_mem hx] at this
    have := List.length_pos_of_mem hx
    rw [List.length_cons]; omega
theorem GathP.end {L xs : DL} {left : Lit → Bool} (h : GathP L xs left) (hl : ∀ kl, left kl = false) : ∀ p, p ∈ xs ↔ p ∈ L := fun p => ⟨h.sub p, fun hp => h.rest p hp (hl _)⟩
theorem GathP.len {L xs : DL} {left : Lit → Bool} (h : GathP L xs left) : xs.length ≤ L.length := nodup_len xs L h.nodup h.sub


section
variable {w : World} {ops : Array Oper} {rest : List Oper} {o : Oper} {a : Act} {Q : Exit → Act → World → Prop}
/-- one more of the map's places comes -/
theorem wpList_next_places {L : DL} (hI : AllIn L) (hg : o.guard = none) (it : Operand) (hop : o.op = Op.next it false) (b r n : Nat) (left : Lit → Bool) (cnt : Nat)
    (hit : a.eval it = .pointer (some ⟨r, 0, none⟩)) (h : w.ranges Try.prog 67 (plainElem Try.prog 3) b r n (mapP L) left cnt)
    (hDone : cnt = 0 → (∀ kl, left kl = false) → wpList Try.prog ops Q rest (a.put o.dst (.tuple #[.bool false])) w)
    (hMore : ∀ (id : Nat) (c : Int) (w' : World) (cnt' : Nat), (id, c) ∈ L → left (kL id) = true → w'.ranges Try.prog 67 (plainElem Try.prog 3) b r n (mapP L) (fun z => left z && !z.sameKey (kL id)) cnt' → cnt' < cnt →
      w.grownBy w' (some r) → w'.heap.size = w.heap.size → (Instr.entry (.pointer (some ⟨r, 0, none⟩))).run Try.prog w' = .ok (.tuple #[kV id, .int .i64 c]) w' → wpList Try.prog ops Q rest (a.put o.dst (.tuple #[.bool true, kV id, .int .i64 c])) w') :
    wpList Try.prog ops Q (o :: rest) a w := by
  refine wpList_next_ranges w hg it hop 67 KP (plainElem Try.prog 3) (fun v : Value => v) (Value.int .i64) (fun key kl _ => ⟨key, rfl⟩) (fun v y hv => by obtain ⟨c, rfl, _⟩ := plainElem_int_inv Try.underlying3 hv; exact ⟨c, rfl⟩)
    b r n (mapP L) left cnt hit h hDone ?_
  intro x c kl y w' cnt' hkey hlk hv hat hrg hlt hgr hsz hen
  obtain ⟨c', ec, hy, _⟩ := plainElem_int_inv Try.underlying3 hv
  cases ec
  obtain ⟨p, hp, ep, e2⟩ : ∃ p ∈ L, kL p.1 = kl ∧ y.1 = .lit (.int .i64 p.2) := by
    have h1 := hat .nil
    unfold mapP DataW.atKey at h1
    simp only at h1
    obtain ⟨bs, rfl⟩ := KLaw.str hkey
    cases hf : (L.map dent).find? (fun p => p.1.sameKey (.string bs)) with
    | none =>
      rw [hf] at h1
      rw [hy] at h1
      simp at h1
    | some q =>
      rw [hf] at h1
      have g1 := List.find?_some hf
      obtain ⟨p, hp, rfl⟩ := List.mem_map.1 (List.mem_of_find?_eq_some hf)
      refine ⟨p, hp, ?_, by simpa [dent] using h1.symm⟩
      have g2 : (plB (pk p.1) == bs) = true := g1
      show Lit.string (plB (pk p.1)) = _
      rw [eq_of_beq g2]
  have ex : x = kV p.1 := KP.inj hkey (by rw [← ep]; exact kV_key (hI p hp))
  have ec : c = p.2 := by
    rw [hy] at e2
    simpa using e2
  subst ep ex ec
  exact hMore p.1 p.2 w' cnt' hp hlk hrg hlt hgr hsz hen
end
end Go.Proofs.Ytahaoodklfmddaa
/- Contract of digest's Nodes: the nodes by code, in memory of the call's own. Conditions: a digest that was made. -/
set_option maxRecDepth 100000
namespace Go.Proofs.Ytahaoodklfmddaa
open Go.RowKit Go.Maps Go.Sort Go.Shelf

/-- the counters by id, in memory of the call's own -/
def NodesAt (w : World) (L : DL) (e : Ending) (w' : World) : Prop := ∃ g c, e = .returned (.slice (some ⟨g, 0, none⟩) L.length c) ∧ w.heap.size ≤ g ∧ L.length ≤ c ∧ RowN w' g L ∧ Below w.heap.size w w'

set_option maxHeartbeats 4000000 in
theorem nodes_at {w : World} {p m b : Nat} {L : DL} (c0 : w.cell? ⟨p, 0, none⟩ = some (.int .i64 m)) (h1 : 1 ≤ m) (c2 : w.cell? ⟨p, 2, none⟩ = some (.map (some b))) (hM : PAt w b L) (hl : L.length ≤ 100000) :
    Calls Try.prog 17 #[.pointer (some ⟨p, 0, none⟩)] w (NodesAt w L) := by
  have KM := made_at h1 c0
  have hlen := hM.len
  have hb := hM.lt
  obtain ⟨i0, hi, hz0, hz1, hz2⟩ := info_parts info_node
  have hmk : ∀ W, (Instr.makeSlice 47 (.int .i64 0) (.int .i64 (L.length : Int))).run Try.prog W = .ok (.slice (some ⟨W.heap.size, 0, none⟩) 0 L.length) (W.alloc (.cells (madeCells (Value.agg #[.int .i64 0, .int .u64 0, .int .i64 0]).cells (L.length * 3)) 50)) := fun W => by
    have := run_make (P := Try.prog) W 47 50 i0 (.agg #[.int .i64 0, .int .u64 0, .int .i64 0]) Try.underlying47 hi hz0 .i64 .i64 0 L.length (by omega) (by omega) (by rw [hz2]; omega) (by omega)
    rw [this, hz1]
    rfl
  have HM := Lib.hid hM
  have HL := Lib.hid hl
  clear hM h1 c0 hi hz0 hz1 hz2 hl
  go_enter Try.func17, Try.ntmps17
  go_wp2_with fail
  refine KM.mono ?_
  rintro e w' ⟨rfl, rfl⟩
  clear KM
  obtain ⟨cs, hcs⟩ : ∃ cs, madeCells (Value.agg #[.int .i64 0, .int .u64 0, .int .i64 0]).cells (L.length * 3) = cs := ⟨_, rfl⟩
  have HCS := Lib.hid hcs
  simp only [hcs] at hmk
  clear hcs
  have hown : (w.alloc (.cells cs 50)).ownsMap Try.prog 67 (plainElem Try.prog 3) b L.length (mapP L) := HM.out.own.alloc _
  have c2' : (w.alloc (.cells cs 50)).cell? ⟨p, 2, none⟩ = some (.map (some b)) := by
    rw [((Below.refl _ w).alloc (Nat.le_refl _) _).cell (World.block_lt_of_cell? w _ c2)]; exact c2
  go_wp2_with (first
    | (at_range; refine wpList_range_own _ rfl _ 60 rfl 67 3 KP Try.underlying60 (plainElem Try.prog 3) b L.length _ rfl hown ?_; intro w1 hrg1 hg1 hs1)
    | fail)
  go_frame
  obtain ⟨r, hr⟩ : ∃ r, (w.alloc (.cells cs 50)).heap.size = r := ⟨_, rfl⟩
  rw [hr] at hrg1 ⊢
  have hr' : r = w.heap.size + 1 := by rw [← hr]; simp
  have B1 : Hid (Below w.heap.size w w1) := ((Below.refl _ w).alloc (Nat.le_refl _) (.cells cs 50)).grown hg1 (by simp) (fun j hj => by cases hj)
  have O1 : w1.ownsRow w.heap.size 50 3 (.slice (some ⟨w.heap.size, 0, none⟩) 0 L.length) ([] : DL).length (flatN []) := by
    refine World.ownsRow.kept ?_ hg1 (.inr (by simp [Value.ownBlock]))
    exact World.ownsRow_made w cs L.length (Nat.le_refl _) (by have := HL.out; unfold maxLen; omega) (by rw [← HCS.out]; simp [madeCells, Value.cells])
  have HG0 := Lib.hid (GathP.start HM.out.allIn)
  have HR := Lib.hid hr'
  have HX := Lib.hid (And.intro hrg1 O1)
  clear hr hr' hg1 hs1 hrg1 O1 hown c2 c2' hlen hmk HCS
  go_loopw [3] (fun v wr => ∃ (left : Lit → Bool) (cn : Nat) (xs : DL) (g c : Nat), v = .slice (some ⟨g, 0, none⟩) xs.length c ∧ Hid (wr.ranges Try.prog 67 (plainElem Try.prog 3) b r L.length (mapP L) left cn) ∧ Hid (wr.ownsRow w.heap.size 50 3 (.slice (some ⟨g, 0, none⟩) xs.length c) xs.length (flatN xs)) ∧ Hid (Below w.heap.size w wr) ∧ Hid (GathP L xs left))
    (fun _ wr => wr.rangeLeft b r)
  case atStart => exact ⟨_, _, [], _, _, rfl, HX.out.1, HX.out.2, B1, HG0⟩
  case round =>
    clear HX B1 HG0
    obtain ⟨left, cn, xs, g, c, rfl, Hrg, Hown, HB, HG⟩ := hrel
    have hrg := Hrg.out
    go_wp2_with (first
      | (at_next; refine wpList_next_places HM.out.allIn rfl _ rfl b r L.length _ _ rfl hrg ?_ ?_)
      | fail)
    · intro _ hl0
      have K := sort_nodes (c := c) (rowN_of_owns Hown.out) HM.out.asc HG.out.nodup (HG.out.end hl0) (by have := HG.out.len; have := HL.out; omega)
      have hcap : xs.length ≤ c := by
        rcases Hown.out.2 with ⟨e, _⟩ | ⟨g', cap, cur, e, _, _, h, _⟩
        · simp at e
        · simp at e; omega
      have hg := (Hown.out.lt g rfl).1
      have HC := Lib.hid (And.intro hcap hg)
      clear hl0 hrg hcap hg
      go_wp2_with fail
      refine K.mono ?_
      rintro e w3 ⟨rfl, hR, hgr, hlen⟩
      have HE : Hid (NodesAt w L (.returned (.slice (some ⟨g, 0, none⟩) xs.length c)) w3) := by
        refine ⟨g, c, by rw [hlen], HC.out.2, by rw [hlen]; exact HC.out.1, hR, HB.out.grown hgr HB.out.size (fun j hj => by cases hj; exact HC.out.2)⟩
      clear K hR hgr hlen
      go_wp2_with fail
      go_ret
      exact HE.out
    · intro id y w2 cn2 hm hlx hrg2 hlt hg2 hs2 hen
      have G2 := Lib.hid (HG.out.step HM.out.asc HM.out.allIn hm hlx)
      obtain ⟨a, ha⟩ : ∃ a : Int, a = ((id / 18446744073709551616 : Nat) : Int) := ⟨_, rfl⟩
      obtain ⟨u, hu⟩ : ∃ u : Int, u = ((id % 18446744073709551616 : Nat) : Int) := ⟨_, rfl⟩
      have ek : kV id = .agg #[.int .i64 a, .int .u64 u] := by rw [ha, hu]; rfl
      rw [ek] at hen ⊢
      have hne : some r ≠ (Value.slice (some ⟨g, 0, none⟩) xs.length c).ownBlock := row_ne_iter Hown.out hrg
      have hown2 : w2.ownsRow w.heap.size 50 3 (.slice (some ⟨g, 0, none⟩) xs.length c) xs.length (flatN xs) := Hown.out.kept hg2 (.inr (fun e => hne e.symm))
      have B2 : Hid (Below w.heap.size w w2) := HB.out.grown hg2 HB.out.size (fun j hj => by cases hj; rw [HR.out]; omega)
      have hownA := hown2.alloc (.cells #[.int .i64 a, .int .u64 u] 67)
      have BA : Hid (Below w.heap.size w (w2.alloc (.cells #[.int .i64 a, .int .u64 u] 67))) := B2.out.alloc B2.out.size _
      have hrgA := hrg2.alloc (.cells #[.int .i64 a, .int .u64 u] 67)
      have hszA : (w2.alloc (.cells #[.int .i64 a, .int .u64 u] 67)).heap.size = wr.heap.size + 1 := by rw [World.size_alloc, hs2]
      obtain ⟨v', w3, hrun, hown3, hgr3, hv3⟩ := app_node hownA BA.out.size (by simp) id a u y ha hu (by have := HG.out.len; have := HL.out; omega)
      rw [hszA] at hrun
      obtain ⟨g', c', rfl⟩ : ∃ g' c', v' = .slice (some ⟨g', 0, none⟩) (xs ++ [(id, y)]).length c' := by
        rcases hown3.2 with ⟨e, _⟩ | ⟨g', cap, cur, e, _⟩
        · exact absurd e hv3
        · exact ⟨g', cap, e⟩
      have hlow : some b ≠ (Value.slice (some ⟨g, 0, none⟩) xs.length c).ownBlock := row_ne_low hownA hb
      have RG3 := Lib.hid (hrgA.kept hgr3 hlow (row_ne_iter hownA hrgA))
      have B3 : Hid (Below w.heap.size w w3) := BA.out.grown hgr3 BA.out.size (fun j hj => (hownA.lt j hj).1)
      have O3 := Lib.hid hown3
      have HLT := Lib.hid (And.intro hlt (And.intro RG3.out.left_eq Hrg.out.left_eq))
      have HRUN := Lib.hid hrun
      clear hm hlx hrg2 hlt hg2 hne hown2 hownA hrgA hszA hown3 hgr3 hv3 hlow hrg hrun ha hu ek
      go_wp2_with (first
        | (at_builtin; refine wpList_append_run rfl _ _ 47 rfl rfl rfl (HRUN.out _) ?_)
        | fail)
      go_roundw
      case rel => exact ⟨_, cn2, xs ++ [(id, y)], g', c', by simp, RG3, O3, B3, G2⟩
      case measure => rw [HLT.out.2.1, HLT.out.2.2]; exact HLT.out.1
end Go.Proofs.Ytahaoodklfmddaa
/- Contract of digest's Rank at fewer than 20 nodes. Conditions: nodes, few. -/
set_option maxRecDepth 100000
namespace Go.Proofs.Ytahaoodklfmddaa
open Go.RowKit Go.Maps Go.Sort Go.Shelf

/-- the first of these behind which as many have come -/
def rankG : DL → Int → Option Nat
  | [], _ => none
  | p :: t, r => if r - p.2 ≤ 0 then some (gr p.1) else rankG t (r - p.2)
/-- what Rank tells of it -/
def rankV : Option Nat → Value
  | none => .tuple #[.int .u64 0, .bool false]
  | some v => .tuple #[.int .u64 (v : Int), .bool true]
/-- the nodes by their greatest numbers -/
def byG (L : DL) : DL := (insertionSort (ltOf cfG) L.toArray 0 L.length).toList
theorem holds_G {w : World} {g : Nat} {L : DL} (h : RowN w g L) (hN : ∀ p ∈ L, NodeC p.1) : HoldsK encG 3 w g 0 L.toArray := by
  intro j hj
  have h1 := h.1 j (by rw [size_flatK] at hj ⊢; exact hj)
  rw [size_flatK] at hj
  have hj' : j / 3 < L.length := by simp at hj; omega
  have e2 : L.toArray[j / 3]! = L[j / 3] := by rw [getElem!_pos _ _ (by simpa using hj')]; simp
  refine ⟨?_, h1.2⟩
  rw [h1.1, get_flatK _ _ _ _ hj, get_flatK _ _ _ _ hj, e2, encG_eq (hN _ (List.getElem_mem hj'))]
theorem Grew.below {A B : World} (h : Grew A B) : Below A.heap.size A B := by
  obtain ⟨q, os, rfl⟩ := h
  exact ⟨rfl, rfl, rfl, by rw [size_grow]; exact Nat.le_add_right _ _, fun k hk => heap_grow_old _ _ hk⟩
theorem swk_G {w w' : World} {g : Nat} {d d' : Array (Nat × Int)} (h : HoldsK encG 3 w g 0 d) (hg : g < w.heap.size) (hs : SWK encG 3 w g 0 d' w') (hd : d'.size = d.size) : HoldsK encG 3 w' g 0 d' ∧ g < w'.heap.size ∧ w.grownBy w' (some g) := by
  refine ⟨hs.holds hg h hd, hs.lt hg, ?_⟩
  obtain ⟨n, os, rfl⟩ := hs
  refine ⟨rfl, rfl, rfl, by unfold sortWorldK; rw [size_grow, size_putRowK]; exact Nat.le_add_right _ _, fun k hk hne => ?_⟩
  unfold sortWorldK
  rw [heap_grow_old _ _ (by rw [size_putRowK]; exact hk)]
  have : g ≠ k := fun e => hne (by rw [e])
  simp [putRowK, putRow, mapBlock, Sort.ahead, Array.getElem?_modify, this]
theorem great_node (x : Nat × Int) (W : World) : Calls Try.prog 39 #[.agg #[.int .i64 (nA x), .int .u64 (nU x)]] W (fun e w' => e = .returned (.int .u64 ((gr x.1 : Nat) : Int)) ∧ Grew W w') := greatest_any (asN_node x.1).1 (asN_node x.1).2 W
theorem byG_perm (L : DL) : PermIn 0 L.length L.toArray (byG L).toArray := by
  have := (insertionSort_holds swo_G L.toArray 0 L.length (Nat.zero_le _) (by simp)).1
  simpa [byG] using this
theorem byG_len (L : DL) : (byG L).length = L.length := by
  have := (byG_perm L).1
  simpa using this

set_option maxHeartbeats 8000000 in
theorem rank_few {T : Tags} {i : Nat} {w : World} {p k b : Nat} {n : Int} {L : DL} (h : DkAt T i w p k n b L) (hk : 1 ≤ k) (hl : L.length < 20) (hN : ∀ q ∈ L, NodeC q.1) (hB : ∀ q ∈ byG L, 1 ≤ q.2 ∧ q.2 ≤ 1125899906842624) {r : Int} (h1 : 1 ≤ r) (h2 : r ≤ n) (hn : n ≤ 1125899906842624) :
    Calls Try.prog 18 #[.pointer (some ⟨p, 0, none⟩), .int .i64 r] w fun e w' => e = .returned (rankV (rankG (byG L) r)) ∧ Below w.heap.size w w' := by
  obtain ⟨c0, c1, c2, _⟩ := h.cells
  have KC := count_at hk c0 c1
  have KN := nodes_at c0 hk c2 h.map (by omega)
  have t1 : ¬ r < 1 := by omega
  have t2 : ¬ n < r := by omega
  have HL := Lib.hid hl
  have HN := Lib.hid hN
  have HB := Lib.hid hB
  have HR := Lib.hid (And.intro h1 (Int.le_trans h2 hn))
  clear h c0 c1 c2 hk hl hN hB h1 h2 hn
  go_enter Try.func18, Try.ntmps18
  go_wp2_with fail
  refine KC.mono ?_
  rintro e w' ⟨rfl, rfl⟩
  clear KC
  go_wp2_with fail
  refine KN.mono ?_
  rintro e w1 ⟨g, c, rfl, hg, hc, hrow, hb1⟩
  have KS := stable_few (c := c) (holds_G hrow HN.out) hrow.2 HL.out
  have HX := Lib.hid (And.intro (And.intro hg hrow) hb1)
  clear KN hg hc hrow hb1
  go_wp2_with fail
  refine KS.mono ?_
  rintro e w2 ⟨rfl, HS⟩
  clear KS
  obtain ⟨D, hD⟩ : ∃ D, byG L = D := ⟨_, rfl⟩
  have hDl : L.length = D.length := by rw [← hD, byG_len]
  have HY : Hid (HoldsK encG 3 w2 g 0 D.toArray ∧ g < w2.heap.size ∧ Below w.heap.size w w2) := by
    obtain ⟨⟨hg, hrow⟩, hb1⟩ := HX.out
    obtain ⟨a1, a2, a3⟩ := swk_G (holds_G hrow HN.out) hrow.2 HS.out (by have := (byG_perm L).1; simpa [byG] using this)
    exact ⟨by rw [← hD]; simpa [byG] using a1, a2, hb1.grown a3 hb1.size (fun j hj => by cases hj; exact hg)⟩
  rw [hDl]
  have hD20 : D.length < 20 := by have := HL.out; omega
  rw [hD] at HB
  have HD := Lib.hid hD
  clear HS HX HL HN hDl hD
  go_wp2_with fail
  go_loopw [1, 23] (fun s1 s23 wr => ∃ (j : Nat) (rr : Int), s23 = .int .i64 j ∧ s1 = .int .i64 rr ∧ j ≤ D.length ∧ 1 ≤ rr ∧ rr ≤ 1125899906842624 ∧ Hid (rankG D r = rankG (D.drop j) rr) ∧ Hid (Below w2.heap.size w2 wr)) (fun _ s23 _ => D.length - (intOf s23).toNat)
  case atStart => exact ⟨0, r, rfl, rfl, Nat.zero_le _, HR.out.1, HR.out.2, Lib.hid (by simp), Lib.hid (Below.refl _ _)⟩
  case round =>
    obtain ⟨j, rr, rfl, rfl, hj, hr1, hr2, HG, HW⟩ := hrel
    by_cases hlt : j < D.length
    · have hz : (j : Int) < (D.length : Int) := by omega
      obtain ⟨q, hq⟩ : ∃ q, D[j]? = some q := ⟨_, List.getElem?_eq_getElem hlt⟩
      have hqm := List.mem_of_getElem? hq
      obtain ⟨b1, b2⟩ := HB.out q hqm
      have hdrop : D.drop j = q :: D.drop (j + 1) := by
        obtain ⟨hj', e⟩ := List.getElem?_eq_some_iff.1 hq
        rw [List.drop_eq_getElem_cons hj', e]
      have e2 : D.toArray[j]! = q := by
        obtain ⟨hj', e⟩ := List.getElem?_eq_some_iff.1 hq
        rw [getElem!_pos _ _ (by simpa using hj')]; simpa using e
      obtain ⟨m0, _⟩ := HY.out.1.cell (i := j) (c := 0) (by simpa using hlt) (by omega)
      obtain ⟨m1, _⟩ := HY.out.1.cell (i := j) (c := 1) (by simpa using hlt) (by omega)
      obtain ⟨m2, _⟩ := HY.out.1.cell (i := j) (c := 2) (by simpa using hlt) (by omega)
      rw [e2] at m0 m1 m2
      simp only [Nat.zero_add, Nat.add_zero] at m0 m1 m2
      have f : ∀ {a : Addr} {v : Value}, w2.cell? a = some v → wr.cell? a = some v := fun hx => by rw [HW.out.cell (World.block_lt_of_cell? w2 _ hx)]; exact hx
      have r0 : wr.cell? ⟨g, j * 3, none⟩ = some (.int .i64 (nA q)) := f m0
      have r1 : wr.cell? ⟨g, j * 3 + 1, none⟩ = some (.int .u64 (nU q)) := f m1
      have r2 : wr.cell? ⟨g, j * 3 + 2, none⟩ = some (.int .i64 q.2) := f m2
      have HJ : Hid (j + 1 ≤ D.length) := Lib.hid hlt
      have wk : IntKind.i64.wrap (rr - q.2) = rr - q.2 := by rw [IntKind.wrap_i64]; omega
      have HA : Hid (Below w2.heap.size w2 (wr.alloc (.cells #[.int .i64 (nA q), .int .u64 (nU q), .int .i64 q.2] 50))) := HW.out.alloc HW.out.size _
      rw [hdrop] at HG
      by_cases hle : rr - q.2 ≤ 0
      · have FE : Hid (rankG (byG L) r = some (gr q.1)) := Lib.hid (by rw [HD.out, HG.out]; unfold rankG; rw [if_pos hle])
        have KP1 := fun W => place_any (nA q) (nU q) q.2 W
        have KG1 := fun W => great_node q W
        clear m0 m1 m2 e2 hdrop hq hqm b1 b2 hr1 hr2 HG HW f
        generalize nA q = x0 at *
        generalize nU q = x1 at *
        generalize q.2 = x2 at *
        go_wp2_with fail
        refine (KP1 _).mono ?_
        rintro e w3 ⟨rfl, os, hw3⟩
        have g3 : Hid (Below w2.heap.size w2 w3) := by
          rw [hw3]
          exact HA.out.trans ((Grew.of_grow os).below.mono HA.out.size)
        clear KP1 hw3
        go_wp2_with fail
        refine (KG1 _).mono ?_
        rintro e w4 ⟨rfl, q4, os4, hw4⟩
        have FW : Hid (Below w.heap.size w w4) := by
          have h4 : Below w2.heap.size w2 w4 := by
            exact g3.out.trans ((show Grew w3 w4 from ⟨q4, os4, hw4⟩).below.mono g3.out.size)
          exact HY.out.2.2.trans (h4.mono HY.out.2.2.size)
        clear KG1 hw4 g3
        go_wp2_with fail
        refine bodyPost_ret (results_tmp2 rfl _ _ _) rfl ?_
        exact ⟨by rw [FE.out]; rfl, FW.out⟩
      · have FG : Hid (rankG D r = rankG (D.drop (j + 1)) (rr - q.2)) := Lib.hid (by rw [HG.out]; show (if rr - q.2 ≤ 0 then _ else _) = _; rw [if_neg hle])
        have b3 : 1 ≤ rr - q.2 := by omega
        have b4 : rr - q.2 ≤ 1125899906842624 := by omega
        have hle' : 0 < rr - q.2 := by omega
        clear m0 m1 m2 e2 hdrop hq hqm b1 b2 hr1 hr2 HG HW f
        generalize nA q = x0 at *
        generalize nU q = x1 at *
        generalize q.2 = x2 at *
        go_wp2_with fail
        go_roundw
        case rel => exact ⟨j + 1, rr - x2, by go_num, rfl, HJ.out, b3, b4, FG, HA⟩
        case measure => have := HJ.out; simp [intOf]; omega
    · have hj2 : j = D.length := by omega
      have FE : Hid (rankG (byG L) r = none) := Lib.hid (by rw [HD.out, HG.out, hj2, List.drop_length]; rfl)
      have hz : ¬ (j : Int) < (D.length : Int) := by omega
      have FW : Hid (Below w.heap.size w wr) := Lib.hid (HY.out.2.2.trans (HW.out.mono HY.out.2.2.size))
      clear HG HW
      go_wp2_with fail
      refine bodyPost_ret (results_tmp2 rfl _ _ _) rfl ?_
      exact ⟨by rw [FE.out]; rfl, FW.out⟩

theorem rank_out {w : World} {p k : Nat} {n : Int} (hk : 1 ≤ k) (c0 : w.cell? ⟨p, 0, none⟩ = some (.int .i64 k)) (c1 : w.cell? ⟨p, 1, none⟩ = some (.int .i64 n)) {r : Int} (h : r < 1 ∨ n < r) :
    Calls Try.prog 18 #[.pointer (some ⟨p, 0, none⟩), .int .i64 r] w fun e w' => e = .returned (rankV none) ∧ w = w' := by
  have K := count_at hk c0 c1
  by_cases hr : r < 1
  · clear K h hk
    go_enter Try.func18, Try.ntmps18
    go_wp2_with fail
    refine bodyPost_ret (results_tmp2 rfl _ _ _) rfl ?_
    exact ⟨rfl, rfl⟩
  · have h2 : n < r := by omega
    clear h hk
    go_enter Try.func18, Try.ntmps18
    go_wp2_with fail
    refine K.mono ?_
    rintro e w' ⟨rfl, rfl⟩
    clear K
    go_wp2_with fail
    refine bodyPost_ret (results_tmp2 rfl _ _ _) rfl ?_
    exact ⟨rfl, rfl⟩
end Go.Proofs.Ytahaoodklfmddaa
