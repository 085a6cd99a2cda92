/- Contracts of the reference's New and Copy: an empty sketch; another one with the same. Conditions: a sketch that was made. -/
import Derived.Test.YtkmonecolkamjaaRHeavyPut
import Derived.Test.YtkmonecolkamjaaSched
set_option maxRecDepth 100000
namespace Go.Proofs.Ytkmonecolkamjaa
open Go.RowKit Go.Maps Go.Sort

/-- append(make of nothing, a row ..): a row of its own -/
theorem copy_row {W : World} {B : Nat} {v : Value} {L : CL} (h : RowC B v L W) (hl : L.length ≤ 100000) :
    ∃ g k w', (∀ ty, (Builtin.append_ #[63, 63] ty #[.slice (some ⟨W.heap.size, 0, none⟩) 0 0, v]).run Try.prog (W.alloc (.cells #[] 70)) = .ok (.slice (some ⟨g, 0, none⟩) L.length k) w') ∧
      OwnC W L (.slice (some ⟨g, 0, none⟩) L.length k) w' := by
  obtain ⟨i, hi, hz0, hz1, hz2⟩ := info_parts info_rctr
  have hb1 := (Below.refl W.heap.size W).alloc (Nat.le_refl _) (.cells #[] 70)
  have hr1 := World.ownsRow_made W (base := W.heap.size) (e := 70) (size := 2) #[] 0 (Nat.le_refl _) (by unfold maxLen; omega) (by simp)
  have hs := h.below hb1
  rcases hs.form with ⟨rfl, rfl⟩ | ⟨g, c, rfl, hc, _, _, _⟩
  · refine ⟨W.heap.size, 0, _, fun ty => append_nilsrc _ _ ty _ i Try.underlying63 hi _ 0 0 0 (Nat.le_refl _), ?_, hb1⟩
    simpa [RowC, flatP] using hr1
  · obtain ⟨v', w', hr, h2, h3, h4⟩ := run_append_own (P := Try.prog) (w := W.alloc (.cells #[] 70)) W.heap.size 63 0 70 i (.agg #[.int .i64 0, .int .i64 0]) 2 16 Try.underlying63 hi hz0 hz1 hz2 rfl (by omega) _ 0 [] hr1
      ⟨g, 0, none⟩ L.length c (flatP L) (flatP_len L) (hs.cells (g := g) rfl) (flatP_one L) (by unfold maxLen; omega) (by omega) hb1.size
    rw [Nat.zero_add, List.nil_append] at h2
    have h5 : RowC W.heap.size v' L w' := h2
    have hgr : Below W.heap.size W w' := hb1.grown h3 hb1.size (fun k e => by simp [Value.ownBlock] at e; omega)
    rcases h5.form with ⟨e, _⟩ | ⟨g', k, e, _⟩
    · exact absurd (h4.1 e).1 (by simp)
    · subst e
      exact ⟨g', k, w', fun ty => hr, h5, hgr⟩

theorem rnew_at {w : World} {m : Nat} (h1 : 1 ≤ m) (h2 : m ≤ 64) :
    Calls Try.prog 10 #[.int .i64 m] w fun e w' => e = .returned (.pointer (some ⟨w.heap.size, 0, none⟩)) ∧ w' = w.alloc (.cells #[.int .i64 m, .slice none 0 0, .int .i64 0] 65) := by
  have z1 : ¬ (m : Int) < 1 := by omega
  have z2 : ¬ (64 : Int) < (m : Int) := by omega
  clear h1 h2
  go_enter Try.func10, Try.ntmps10
  go_wp2_with fail
  go_ret
  exact ⟨rfl, rfl⟩
theorem rnew_no {w : World} {m : Int} (h : m < 1 ∨ 64 < m) :
    Calls Try.prog 10 #[.int .i64 m] w fun e w' => e = .returned (.pointer none) ∧ w = w' := by
  rcases h with h | h
  · go_enter Try.func10, Try.ntmps10
    go_wp2_with fail
    go_ret
    exact ⟨rfl, rfl⟩
  · have h' : ¬ m < 1 := by omega
    go_enter Try.func10, Try.ntmps10
    go_wp2_with fail
    go_ret
    exact ⟨rfl, rfl⟩
theorem rk_new {w : World} {m : Nat} (h1 : 1 ≤ m) (h2 : m ≤ 64) (T : Tags) (i : Nat) :
    Calls Try.prog 10 #[.int .i64 m] w fun e w' => ∃ p, e = .returned (.pointer (some ⟨p, 0, none⟩)) ∧ Below w.heap.size w w' ∧ ∃ T', Next T w T' ∧ RK p (HV.none_ m) T' i w' := by
  refine (rnew_at h1 h2).mono ?_
  rintro e w' ⟨rfl, rfl⟩
  refine ⟨_, rfl, (Below.refl _ w).alloc (Nat.le_refl _) _, T.one w.heap.size (some i), T.one_next w _, ⟨.slice none 0 0, ?_⟩, good_none h1 h2⟩
  exact ⟨heap_alloc_new w _, by unfold Tags.one; rw [if_neg (by omega)], RowC.nil _ _, fun g hg => by simp [Value.ownBlock] at hg, List.Pairwise.nil, fun p hp => by cases hp⟩

set_option maxHeartbeats 3200000 in
theorem rcopy_any {T : Tags} {i j : Nat} {w : World} {p : Nat} {V : HV} (h : RK p V T i w) :
    Calls Try.prog 16 #[.pointer (some ⟨p, 0, none⟩)] w fun e w' => ∃ q, e = .returned (.pointer (some ⟨q, 0, none⟩)) ∧ Below w.heap.size w w' ∧ ∃ T', Next T w T' ∧ RK q V T' j w' := by
  obtain ⟨⟨v, h⟩, hG⟩ := h
  obtain ⟨va, vc, rfl, _, _⟩ := h.row.form2
  obtain ⟨c0, c1, c2, _⟩ := h.cells
  have hl : V.L.length ≤ 100000 := by have := hG.len; have := hG.m64; omega
  obtain ⟨g, k, w1, hrun, hO⟩ := copy_row (W := w.drew) (h.row.below (below_drew1 w)) hl
  have HR1 : Hid (∀ ty, (Builtin.append_ #[63, 63] ty #[.slice (some ⟨w.heap.size, 0, none⟩) 0 0, .slice va V.L.length vc]).run Try.prog (w.alloc (.cells #[] 70)).drew = .ok (.slice (some ⟨g, 0, none⟩) V.L.length k) w1) := Lib.hid hrun
  have K : ∀ W, Below w.heap.size w W → W.cell? ⟨p, 0, none⟩ = some (.int .i64 V.m) ∧ W.cell? ⟨p, 1, none⟩ = some (.slice va V.L.length vc) ∧ W.cell? ⟨p, 2, none⟩ = some (.int .i64 V.n) := fun W hb => by
    have e : ∀ {x u}, w.cell? x = some u → W.cell? x = some u := fun {x u} hx => by rw [hb.cell (World.block_lt_of_cell? w _ hx)]; exact hx
    exact ⟨e c0, e c1, e c2⟩
  have hb1 : Below w.heap.size w w1 := (below_drew1 w).trans hO.2
  have S0 : Hid (w.drew.cell? ⟨p, 0, none⟩ = some (.int .i64 V.m) ∧ w.drew.cell? ⟨p, 1, none⟩ = some (.slice va V.L.length vc) ∧ w.drew.cell? ⟨p, 2, none⟩ = some (.int .i64 V.n)) := Lib.hid ⟨c0, c1, c2⟩
  have S1 : Hid ((w.drew.alloc (.cells #[] 70)).cell? ⟨p, 0, none⟩ = some (.int .i64 V.m) ∧ (w.drew.alloc (.cells #[] 70)).cell? ⟨p, 1, none⟩ = some (.slice va V.L.length vc) ∧ (w.drew.alloc (.cells #[] 70)).cell? ⟨p, 2, none⟩ = some (.int .i64 V.n)) := Lib.hid (K _ ((below_drew1 w).alloc (by show w.heap.size ≤ w.heap.size; exact Nat.le_refl _) _))
  have S2 := Lib.hid (K _ hb1)
  have S3 := Lib.hid (K _ (hb1.alloc hb1.size (.cells #[.int .i64 V.m, .slice (some ⟨g, 0, none⟩) V.L.length k, .int .i64 V.n] 65)))
  have FIN : Hid (∃ q, (Ending.returned (.pointer (some ⟨w1.heap.size, 0, none⟩)) : Ending) = .returned (.pointer (some ⟨q, 0, none⟩)) ∧ Below w.heap.size w (w1.alloc (.cells #[.int .i64 V.m, .slice (some ⟨g, 0, none⟩) V.L.length k, .int .i64 V.n] 65)) ∧
      ∃ T', Next T w T' ∧ RK q V T' j (w1.alloc (.cells #[.int .i64 V.m, .slice (some ⟨g, 0, none⟩) V.L.length k, .int .i64 V.n] 65))) := by
    have hg : w.heap.size ≤ g := ownsRow_ge hO.1 g rfl
    have hg1 : g < w1.heap.size := (hO.1.lt g rfl).2
    have hs := hb1.size
    refine ⟨_, rfl, hb1.alloc hs _, fun x => if x < w.heap.size then T x else if x = g then none else some j, fun x hx => if_pos hx, ⟨_, {
      head := heap_alloc_new w1 _
      tp := by rw [if_neg (by omega), if_neg (by omega)]
      row := RowC.below (ownsRow_rebase2 hO.1 fun _ _ => Nat.zero_le _) ((Below.refl _ w1).alloc (Nat.le_refl _) _)
      tr := fun y hy => by
        have e : g = y := by simpa [Value.ownBlock] using hy
        subst e
        rw [if_neg (by omega), if_pos rfl]
      asc := h.asc
      inI := h.inI }⟩, hG⟩
  clear h hG hrun hO hb1 K hl
  go_enter Try.func16, Try.ntmps16
  go_wp2_with fail
  refine wp_region_sched (fun W => W.cell? ⟨p, 0, none⟩ = some (.int .i64 V.m) ∧ W.cell? ⟨p, 1, none⟩ = some (.slice va V.L.length vc) ∧ W.cell? ⟨p, 2, none⟩ = some (.int .i64 V.n)) 16 [0, 1, 2, 3, 5, 6, 7, 8, 10, 11, 12, 13] [4, 9, 14, 15, 16] (by kernel_rfl) (by decide +kernel) S0.out ?_
  iterate 12
    refine wpFirst_cons (v := ?_) rfl rfl ?_ ?_
    rotate_left
    · (intro W hW; (try dsimp only at hW); go_simp) <;> with_reducible rfl
    simp only [Act.put, List.setIfInBounds_toArray]
  refine wpFirst_nil ?_
  refine wpRest_cons rfl ?_
  intro K hK
  go_wp2_with fail
  refine hK.out _ _ (fun _ => S1.out) ?_
  clear hK K
  refine wpRest_cons rfl ?_
  intro K hK
  refine wpList_append_run rfl _ _ 63 rfl rfl rfl (HR1.out _) ?_
  go_wp2_with fail
  refine hK.out _ _ (fun _ => S2.out) ?_
  clear hK K
  refine wpRest_cons rfl ?_
  intro K hK
  go_wp2_with fail
  refine hK.out _ _ (fun _ => S2.out) ?_
  clear hK K
  refine wpRest_cons rfl ?_
  intro K hK
  go_wp2_with fail
  refine hK.out _ _ (fun _ => S3.out) ?_
  clear hK K
  refine wpRest_cons rfl ?_
  intro K hK
  go_wp2_with fail
  refine hK.out _ _ (fun h => absurd rfl h) ?_
  clear hK K
  refine wpRest_nil ?_
  go_wp2_with fail
  go_ret
  exact FIN.out
end Go.Proofs.Ytkmonecolkamjaa
