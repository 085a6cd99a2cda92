/- The comparison of nodes by level and prefix. Conditions: none. -/
import Derived.Test.YtahaoodklfmddaaDigRow
import Derived.Test.YtahaoodklfmddaaShelf
import Derived.Outline
set_option maxRecDepth 100000
namespace Go.Proofs.Ytahaoodklfmddaa
open Go.RowKit Go.Maps Go.Sort

theorem isNaN_u64 (x : Int) (w : World) : Calls Try.prog 54 #[.int .u64 x] w fun e w' => e = .returned (.bool false) ∧ w = w' := by
  go_enter Try.func54, Try.ntmps54
  go_wp2_with fail
  go_ret
  exact ⟨by simp, rfl⟩
theorem compare_u64 (x y : Int) (w : World) : Calls Try.prog 36 #[.int .u64 x, .int .u64 y] w fun e w' => e = .returned (.int .i64 (Lib.compareInt x y)) ∧ w = w' := by
  have KX := isNaN_u64 x w
  have KY := isNaN_u64 y w
  unfold Lib.compareInt
  by_cases h1 : x < y
  · go_enter Try.func36, Try.ntmps36
    go_wp2_with fail
    refine KX.mono ?_
    rintro e w' ⟨rfl, rfl⟩
    go_wp2_with fail
    refine KY.mono ?_
    rintro e w' ⟨rfl, rfl⟩
    clear KX KY
    go_wp2_with fail
    go_ret
    exact ⟨by simp, rfl⟩
  · by_cases h2 : y < x
    · go_enter Try.func36, Try.ntmps36
      go_wp2_with fail
      refine KX.mono ?_
      rintro e w' ⟨rfl, rfl⟩
      go_wp2_with fail
      refine KY.mono ?_
      rintro e w' ⟨rfl, rfl⟩
      clear KX KY
      go_wp2_with fail
      go_ret
      exact ⟨by simp, rfl⟩
    · go_enter Try.func36, Try.ntmps36
      go_wp2_with fail
      refine KX.mono ?_
      rintro e w' ⟨rfl, rfl⟩
      go_wp2_with fail
      refine KY.mono ?_
      rintro e w' ⟨rfl, rfl⟩
      clear KX KY
      go_wp2_with fail
      go_ret
      exact ⟨by simp, rfl⟩

theorem or_two {w : World} {g : Nat} {a b : Int} (ha : w.cell? ⟨g, 0, none⟩ = some (.int .i64 a)) (hb : w.cell? ⟨g, 1, none⟩ = some (.int .i64 b)) :
    Calls Try.prog 34 #[.slice (some ⟨g, 0, none⟩) 2 2] w fun e w' => e = .returned (.int .i64 (if a = 0 then b else a)) ∧ w = w' := by
  by_cases h1 : a = 0
  · subst h1
    by_cases h2 : b = 0
    · subst h2
      go_enter Try.func34, Try.ntmps34
      go_wp2_with fail
      refine wp_loop_rounds 3 ?_
      rw [rounds_succ]
      go_wp2_with fail
      rw [rounds_succ]
      go_wp2_with fail
      rw [rounds_succ]
      go_wp2_with fail
      go_ret
      exact ⟨rfl, rfl⟩
    · go_enter Try.func34, Try.ntmps34
      go_wp2_with fail
      refine wp_loop_rounds 2 ?_
      rw [rounds_succ]
      go_wp2_with fail
      rw [rounds_succ]
      go_wp2_with fail
      go_ret
      exact ⟨rfl, rfl⟩
  · rw [if_neg h1]
    go_enter Try.func34, Try.ntmps34
    go_wp2_with fail
    refine wp_loop_rounds 1 ?_
    rw [rounds_succ]
    go_wp2_with fail
    go_ret
    exact ⟨rfl, rfl⟩

/-- the comparison by code -/
def cfN (x y : Nat × Int) : Int := Lib.compareInt x.1 y.1
theorem lt_N (x y : Nat × Int) : ltOf cfN x y = decide (x.1 < y.1) := by
  unfold ltOf cfN Lib.compareInt
  by_cases h1 : x.1 < y.1
  · have : (x.1 : Int) < y.1 := by omega
    simp [h1]
  · by_cases h2 : y.1 < x.1 <;> simp [h1, h2]
theorem swo_N : SWO (ltOf cfN) where
  irrefl x := by rw [lt_N]; simp
  trans x y z h1 h2 := by rw [lt_N] at *; simp at *; omega
  ntrans x y z h1 h2 := by rw [lt_N] at *; simp at *; omega
theorem cf_split (a b : Nat) : (if Lib.compareInt ((a / 18446744073709551616 : Nat) : Int) ((b / 18446744073709551616 : Nat) : Int) = 0 then Lib.compareInt ((a % 18446744073709551616 : Nat) : Int) ((b % 18446744073709551616 : Nat) : Int) else Lib.compareInt ((a / 18446744073709551616 : Nat) : Int) ((b / 18446744073709551616 : Nat) : Int)) = Lib.compareInt (a : Int) (b : Int) := by
  unfold Lib.compareInt
  split <;> split <;> (try split) <;> (try split) <;> (try split) <;> (try split) <;> omega

set_option maxHeartbeats 4000000 in
theorem closNode (x y : Nat × Int) (W : World) :
    Calls Try.prog 33 #[.agg (encN x).toArray, .agg (encN y).toArray] W fun e w' => e = .returned (.int .i64 (cfN x y)) ∧ ∃ q os', w' = grow (W.drewN q) os' := by
  obtain ⟨x0, x1, x2, ex⟩ : ∃ x0 x1 x2 : Int, x0 = ((x.1 / 18446744073709551616 : Nat) : Int) ∧ x1 = ((x.1 % 18446744073709551616 : Nat) : Int) ∧ x2 = x.2 := ⟨_, _, _, rfl, rfl, rfl⟩
  obtain ⟨y0, y1, y2, ey⟩ : ∃ y0 y1 y2 : Int, y0 = ((y.1 / 18446744073709551616 : Nat) : Int) ∧ y1 = ((y.1 % 18446744073709551616 : Nat) : Int) ∧ y2 = y.2 := ⟨_, _, _, rfl, rfl, rfl⟩
  have e : cfN x y = if Lib.compareInt x0 y0 = 0 then Lib.compareInt x1 y1 else Lib.compareInt x0 y0 := by rw [ex.1, ex.2.1, ey.1, ey.2.1, cf_split]; rfl
  have fx : (encN x).toArray = #[.int .i64 x0, .int .u64 x1, .int .i64 x2] := by rw [ex.1, ex.2.1, ex.2.2]; rfl
  have fy : (encN y).toArray = #[.int .i64 y0, .int .u64 y1, .int .i64 y2] := by rw [ey.1, ey.2.1, ey.2.2]; rfl
  rw [e, fx, fy]
  have K1 := fun W' => Try.cmp_Compare_int x0 y0 W'
  have K2 := fun W' => compare_u64 x1 y1 W'
  generalize Lib.compareInt x0 y0 = r at K1 ⊢
  generalize Lib.compareInt x1 y1 = s at K2 ⊢
  have KT := fun (g : Nat) (w : World) (h1 : w.cell? ⟨g, 0, none⟩ = some (.int .i64 r)) (h2 : w.cell? ⟨g, 1, none⟩ = some (.int .i64 s)) => or_two h1 h2
  generalize (if r = 0 then s else r) = t at KT ⊢
  have HT := Lib.hid KT
  clear KT
  obtain ⟨G, hG⟩ : ∃ G, W.heap.size = G := ⟨_, rfl⟩
  obtain ⟨V, hV⟩ : ∃ V, (W.alloc (.cells #[.int .i64 x0, .int .u64 x1, .int .i64 x2] 50)).alloc (.cells #[.int .i64 y0, .int .u64 y1, .int .i64 y2] 50) = V := ⟨_, rfl⟩
  have a0 : V.heap[G]? = some (.cells #[.int .i64 x0, .int .u64 x1, .int .i64 x2] 50 (0, 0)) := by
    rw [← hV, heap_alloc_old _ _ (by simp; omega), ← hG]
    exact heap_alloc_new W _
  have a1 : V.heap[G + 1]? = some (.cells #[.int .i64 y0, .int .u64 y1, .int .i64 y2] 50 (0, 0)) := by
    have := heap_alloc_new (W.alloc (.cells #[.int .i64 x0, .int .u64 x1, .int .i64 x2] 50)) (.cells #[.int .i64 y0, .int .u64 y1, .int .i64 y2] 50)
    rw [World.size_alloc, hG, hV] at this
    exact this
  have c0 : V.cell? ⟨G, 0, none⟩ = some (.int .i64 x0) := by rw [cell_of_row _ _ _ _ _ _ a0]; rfl
  have c1 : V.cell? ⟨G, 1, none⟩ = some (.int .u64 x1) := by rw [cell_of_row _ _ _ _ _ _ a0]; rfl
  have d0 : V.cell? ⟨G + 1, 0, none⟩ = some (.int .i64 y0) := by rw [cell_of_row _ _ _ _ _ _ a1]; rfl
  have d1 : V.cell? ⟨G + 1, 1, none⟩ = some (.int .u64 y1) := by rw [cell_of_row _ _ _ _ _ _ a1]; rfl
  have hVg : ∃ os, V = grow W os := ⟨_, by rw [← hV, alloc_eq_grow, alloc_eq_grow, grow_grow]⟩
  clear a0 a1 ex ey e fx fy
  go_enter Try.func33, Try.ntmps33
  go_wp2_with fail
  clear hV
  refine wp_region_mix (fun Z => Z.cell? ⟨G, 0, none⟩ = some (.int .i64 x0) ∧ Z.cell? ⟨G, 1, none⟩ = some (.int .u64 x1) ∧ Z.cell? ⟨G + 1, 0, none⟩ = some (.int .i64 y0) ∧ Z.cell? ⟨G + 1, 1, none⟩ = some (.int .u64 y1)) 13 [(true, 0), (true, 1), (true, 2), (true, 3), (true, 5), (true, 6), (true, 7), (true, 8), (false, 4), (false, 9), (false, 10), (false, 11), (false, 12)] (by kernel_rfl) (by decide +kernel) rfl (by decide +kernel) ⟨c0, c1, d0, d1⟩ ?_
  iterate 8
    refine wpMix_take (v := ?_) rfl rfl ?_ ?_
    rotate_left
    · (intro W hW; (try dsimp only at hW); go_simp) <;> with_reducible rfl
    simp only [Act.put, List.setIfInBounds_toArray, List.set_cons_zero, List.set_cons_succ]
  refine wpMix_run rfl ?_
  intro K hK
  go_wp2_with fail
  refine (K1 _).mono ?_
  rintro e w1 ⟨rfl, rfl⟩
  go_wp2_with fail
  refine hK.out _ _ (fun _ => ⟨c0, c1, d0, d1⟩) ?_
  clear hK K
  refine wpMix_run rfl ?_
  intro K hK
  go_wp2_with fail
  refine (K2 _).mono ?_
  rintro e w1 ⟨rfl, rfl⟩
  go_wp2_with fail
  refine hK.out _ _ (fun _ => ⟨c0, c1, d0, d1⟩) ?_
  clear hK K K1 K2
  refine wpMix_run rfl ?_
  intro K hK
  go_wp2_with fail
  have hb := (Below.refl V.heap.size V).alloc (Nat.le_refl _) (.cells #[.int .i64 r, .int .i64 s] 3)
  have S2 : (V.alloc (.cells #[.int .i64 r, .int .i64 s] 3)).cell? ⟨G, 0, none⟩ = some (.int .i64 x0) ∧ (V.alloc (.cells #[.int .i64 r, .int .i64 s] 3)).cell? ⟨G, 1, none⟩ = some (.int .u64 x1) ∧
      (V.alloc (.cells #[.int .i64 r, .int .i64 s] 3)).cell? ⟨G + 1, 0, none⟩ = some (.int .i64 y0) ∧ (V.alloc (.cells #[.int .i64 r, .int .i64 s] 3)).cell? ⟨G + 1, 1, none⟩ = some (.int .u64 y1) :=
    ⟨(hb.cell (World.block_lt_of_cell? _ _ c0)).trans c0, (hb.cell (World.block_lt_of_cell? _ _ c1)).trans c1, (hb.cell (World.block_lt_of_cell? _ _ d0)).trans d0, (hb.cell (World.block_lt_of_cell? _ _ d1)).trans d1⟩
  have n0 : (V.alloc (.cells #[.int .i64 r, .int .i64 s] 3)).cell? ⟨V.heap.size, 0, none⟩ = some (.int .i64 r) := by rw [cell_of_row _ _ _ _ _ _ (heap_alloc_new V _)]; rfl
  have n1 : (V.alloc (.cells #[.int .i64 r, .int .i64 s] 3)).cell? ⟨V.heap.size, 1, none⟩ = some (.int .i64 s) := by rw [cell_of_row _ _ _ _ _ _ (heap_alloc_new V _)]; rfl
  have KO := HT.out _ (V.alloc (.cells #[.int .i64 r, .int .i64 s] 3)).drew n0 n1
  clear HT
  have FIN : Hid (∃ q os', (V.alloc (.cells #[.int .i64 r, .int .i64 s] 3)).drew = grow (W.drewN q) os') := by
    obtain ⟨os, rfl⟩ := hVg
    exact ⟨1, _, by rw [alloc_eq_grow, grow_grow]; rfl⟩
  refine hK.out _ _ (fun _ => S2) ?_
  clear hK K hb c0 c1 d0 d1 n0 n1 hVg
  refine wpMix_run rfl ?_
  intro K hK
  go_wp2_with fail
  refine KO.mono ?_
  rintro e w1 ⟨rfl, rfl⟩
  go_wp2_with fail
  refine hK.out _ _ (fun _ => S2) ?_
  clear hK K KO
  refine wpMix_run rfl ?_
  intro K hK
  go_wp2_with fail
  refine hK.out _ _ (fun _ => S2) ?_
  clear hK K S2
  refine wpMix_nil ?_
  go_wp2_with fail
  go_ret
  exact ⟨rfl, FIN.out⟩
end Go.Proofs.Ytahaoodklfmddaa
