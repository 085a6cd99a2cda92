/- The comparison of nodes by their greatest numbers. Conditions: none. -/
import Derived.Test.YtahaoodklfmddaaDigG
set_option maxRecDepth 100000
namespace Go.Proofs.Ytahaoodklfmddaa
open Go.RowKit Go.Maps Go.Sort

/-- a world with blocks more, and with more drawn -/
def Grew (W Z : World) : Prop := ∃ q os, Z = grow (W.drewN q) os
theorem grow_none (W : World) : W = grow W #[] := by
  unfold grow
  rw [Array.append_empty]
theorem Grew.refl (W : World) : Grew W W := ⟨0, #[], grow_none W⟩
theorem Grew.trans {A B C : World} (h : Grew A B) (k : Grew B C) : Grew A C := by
  obtain ⟨q, os, rfl⟩ := h
  obtain ⟨q', os', rfl⟩ := k
  exact ⟨q + q', os ++ os', by rw [show (grow (A.drewN q) os).drewN q' = grow ((A.drewN q).drewN q') os from rfl, World.drewN_drewN, grow_grow]⟩
theorem Grew.of_grow {A : World} (os : Array Obj) : Grew A (grow A os) := ⟨0, os, rfl⟩
theorem Grew.drew {A B : World} (h : Grew A B) : Grew A B.drew := h.trans ⟨1, #[], grow_none B.drew⟩
theorem Grew.cell {A B : World} (h : Grew A B) {a : Addr} {v : Value} (hc : A.cell? a = some v) : B.cell? a = some v := by
  obtain ⟨q, os, rfl⟩ := h
  rw [cell?_grow _ _ _ (by exact World.block_lt_of_cell? A _ hc)]
  exact hc

set_option maxHeartbeats 8000000 in
theorem closRank (x y : Nat × Int) (W : World) :
    Calls Try.prog 38 #[.agg #[.int .i64 (nA x), .int .u64 (nU x), .int .i64 x.2], .agg #[.int .i64 (nA y), .int .u64 (nU y), .int .i64 y.2]] W fun e w' => e = .returned (.int .i64 (cfG x y)) ∧ ∃ q os', w' = grow (W.drewN q) os' := by
  have PX := fun W => place_any (nA x) (nU x) x.2 W
  have PY := fun W => place_any (nA y) (nU y) y.2 W
  have GX := fun W => greatest_any (asN_node x.1).1 (asN_node x.1).2 W
  have GY := fun W => greatest_any (asN_node y.1).1 (asN_node y.1).2 W
  have KC := fun W => compare_u64 (gr x.1 : Nat) (gr y.1 : Nat) W
  unfold cfG
  generalize Lib.compareInt (gr x.1 : Nat) (gr y.1 : Nat) = r at KC ⊢
  change ∀ W, Calls Try.prog 39 #[.agg #[.int .i64 (nA x), .int .u64 (nU x)]] W (fun e w' => e = .returned (.int .u64 ((gr x.1 : Nat) : Int)) ∧ ∃ q os', w' = grow (W.drewN q) os') at GX
  change ∀ W, Calls Try.prog 39 #[.agg #[.int .i64 (nA y), .int .u64 (nU y)]] W (fun e w' => e = .returned (.int .u64 ((gr y.1 : Nat) : Int)) ∧ ∃ q os', w' = grow (W.drewN q) os') at GY
  generalize ((gr x.1 : Nat) : Int) = gx at GX KC
  generalize ((gr y.1 : Nat) : Int) = gy at GY KC
  generalize nA x = x0 at *
  generalize nU x = x1 at *
  generalize nA y = y0 at *
  generalize nU y = y1 at *
  generalize x.2 = x2 at *
  generalize y.2 = y2 at *
  obtain ⟨G, hG⟩ : ∃ G, W.heap.size = G := ⟨_, rfl⟩
  obtain ⟨V, hV⟩ : ∃ V, (W.alloc (.cells #[.int .i64 x0, .int .u64 x1, .int .i64 x2] 50)).alloc (.cells #[.int .i64 y0, .int .u64 y1, .int .i64 y2] 50) = V := ⟨_, rfl⟩
  have a0 : V.heap[G]? = some (.cells #[.int .i64 x0, .int .u64 x1, .int .i64 x2] 50 (0, 0)) := by
    rw [← hV, heap_alloc_old _ _ (by simp; omega), ← hG]
    exact heap_alloc_new W _
  have a1 : V.heap[G + 1]? = some (.cells #[.int .i64 y0, .int .u64 y1, .int .i64 y2] 50 (0, 0)) := by
    have := heap_alloc_new (W.alloc (.cells #[.int .i64 x0, .int .u64 x1, .int .i64 x2] 50)) (.cells #[.int .i64 y0, .int .u64 y1, .int .i64 y2] 50)
    rw [World.size_alloc, hG, hV] at this
    exact this
  let S : World → Prop := fun Z => Z.cell? ⟨G, 0, none⟩ = some (.int .i64 x0) ∧ Z.cell? ⟨G, 1, none⟩ = some (.int .u64 x1) ∧ Z.cell? ⟨G, 2, none⟩ = some (.int .i64 x2) ∧
    Z.cell? ⟨G + 1, 0, none⟩ = some (.int .i64 y0) ∧ Z.cell? ⟨G + 1, 1, none⟩ = some (.int .u64 y1) ∧ Z.cell? ⟨G + 1, 2, none⟩ = some (.int .i64 y2)
  have SV : S V.drew := ⟨by rw [show V.drew.cell? _ = V.cell? _ from rfl, cell_of_row _ _ _ _ _ _ a0]; rfl, by rw [show V.drew.cell? _ = V.cell? _ from rfl, cell_of_row _ _ _ _ _ _ a0]; rfl, by rw [show V.drew.cell? _ = V.cell? _ from rfl, cell_of_row _ _ _ _ _ _ a0]; rfl,
    by rw [show V.drew.cell? _ = V.cell? _ from rfl, cell_of_row _ _ _ _ _ _ a1]; rfl, by rw [show V.drew.cell? _ = V.cell? _ from rfl, cell_of_row _ _ _ _ _ _ a1]; rfl, by rw [show V.drew.cell? _ = V.cell? _ from rfl, cell_of_row _ _ _ _ _ _ a1]; rfl⟩
  have SG : Hid (∀ Z, Grew V.drew Z → S Z) := Lib.hid fun Z hg => ⟨hg.cell SV.1, hg.cell SV.2.1, hg.cell SV.2.2.1, hg.cell SV.2.2.2.1, hg.cell SV.2.2.2.2.1, hg.cell SV.2.2.2.2.2⟩
  have VG : Hid (Grew W V.drew) := by
    have h1 : V = grow W (#[.cells #[.int .i64 x0, .int .u64 x1, .int .i64 x2] 50 (0, 0)] ++ #[.cells #[.int .i64 y0, .int .u64 y1, .int .i64 y2] 50 (0, 0)]) := by rw [← hV, alloc_eq_grow, alloc_eq_grow, grow_grow]
    exact Grew.drew (by rw [h1]; exact Grew.of_grow _)
  clear a0 a1
  go_enter Try.func38, Try.ntmps38
  go_wp2_with fail
  clear hV
  refine wp_region_mix S 8 [(true, 0), (true, 3), (false, 1), (false, 2), (false, 4), (false, 5), (false, 6), (false, 7)] (by kernel_rfl) (by decide +kernel) rfl (by decide +kernel) SV ?_
  iterate 2
    refine wpMix_take (v := ?_) rfl rfl ?_ ?_
    rotate_left
    · (intro W hW; (try dsimp only [S] at hW); go_simp) <;> with_reducible rfl
    simp only [Act.put, List.setIfInBounds_toArray, List.set_cons_zero, List.set_cons_succ]
  have G0 : Hid (Grew V.drew V.drew) := Lib.hid (Grew.refl _)
  refine wpMix_run rfl ?_
  intro K hK
  go_wp2_with fail
  refine (PX _).mono ?_
  rintro e z1 ⟨rfl, q1⟩
  have G1 : Hid (Grew V.drew z1) := Lib.hid (G0.out.trans (by obtain ⟨os, rfl⟩ := q1; exact Grew.of_grow os))
  go_wp2_with fail
  refine hK.out _ _ (fun _ => SG.out _ G1.out) ?_
  clear hK K
  refine wpMix_run rfl ?_
  intro K hK
  go_wp2_with fail
  refine (GX _).mono ?_
  rintro e z2 ⟨rfl, q2⟩
  have G2 : Hid (Grew V.drew z2) := Lib.hid (G1.out.trans q2)
  go_wp2_with fail
  refine hK.out _ _ (fun _ => SG.out _ G2.out) ?_
  clear hK K
  refine wpMix_run rfl ?_
  intro K hK
  go_wp2_with fail
  refine (PY _).mono ?_
  rintro e z3 ⟨rfl, q3⟩
  have G3 : Hid (Grew V.drew z3) := Lib.hid (G2.out.trans (by obtain ⟨os, rfl⟩ := q3; exact Grew.of_grow os))
  go_wp2_with fail
  refine hK.out _ _ (fun _ => SG.out _ G3.out) ?_
  clear hK K
  refine wpMix_run rfl ?_
  intro K hK
  go_wp2_with fail
  refine (GY _).mono ?_
  rintro e z4 ⟨rfl, q4⟩
  have G4 : Hid (Grew V.drew z4) := Lib.hid (G3.out.trans q4)
  go_wp2_with fail
  refine hK.out _ _ (fun _ => SG.out _ G4.out) ?_
  clear hK K
  refine wpMix_run rfl ?_
  intro K hK
  go_wp2_with fail
  refine (KC _).mono ?_
  rintro e z5 ⟨rfl, rfl⟩
  go_wp2_with fail
  refine hK.out _ _ (fun _ => SG.out _ G4.out) ?_
  clear hK K
  refine wpMix_run rfl ?_
  intro K hK
  go_wp2_with fail
  refine hK.out _ _ (fun _ => SG.out _ G4.out) ?_
  clear hK K
  refine wpMix_nil ?_
  go_wp2_with fail
  go_ret
  exact ⟨rfl, VG.out.trans G4.out⟩
end Go.Proofs.Ytahaoodklfmddaa
