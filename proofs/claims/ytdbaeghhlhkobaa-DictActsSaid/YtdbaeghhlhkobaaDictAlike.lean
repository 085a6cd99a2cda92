/- Contract of the statements' own alike: a dictionary and the document's that hold the same. Conditions: dictionaries that were made. -/
import Derived.Test.YtdbaeghhlhkobaaRDictCopy
set_option maxRecDepth 100000
namespace Go.Proofs.Ytdbaeghhlhkobaa
open Go.RowKit Go.Maps Go.Sort Go.Lib

/-- a row from its k-th value on -/
def RestV (w : World) (g : Nat) (R : List VV) (k : Nat) : Prop := g < w.heap.size ∧ ∀ j x, k ≤ j → R[j]? = some x →
  (w.cell? ⟨g, j * 3, none⟩ = some (.int .i64 x.k) ∧ w.cell? ⟨g, j * 3 + 1, none⟩ = some (.int .i64 x.n) ∧ w.cell? ⟨g, j * 3 + 2, none⟩ = some (.string x.s)) ∧ w.frozen? ⟨g, j * 3, none⟩ = false ∧ w.frozen? ⟨g, j * 3 + 1, none⟩ = false ∧ w.frozen? ⟨g, j * 3 + 2, none⟩ = false
theorem RestV.start {w : World} {B g n c : Nat} {R : List VV} (h : RowV B (.slice (some ⟨g, 0, none⟩) n c) R w) : RestV w g R 0 := by
  obtain ⟨cur, hk⟩ := h.kind g rfl
  refine ⟨lt_of_heap hk, fun j x _ hx => ⟨?_, free_of_row hk _, free_of_row hk _, free_of_row hk _⟩⟩
  have hc := World.ownsRow.cells h (g := g) rfl
  obtain ⟨a0, a1, a2⟩ := flatC_at R j x hx
  have h0 := hc _ _ a0
  have h1 := hc _ _ a1
  have h2 := hc _ _ a2
  simp only [Addr.add_at, Nat.zero_add] at h0 h1 h2
  exact ⟨h0, h1, h2⟩
theorem RestV.below {w w' : World} {g k : Nat} {R : List VV} (h : RestV w g R k) (hb : Below w.heap.size w w') : RestV w' g R k :=
  ⟨Nat.lt_of_lt_of_le h.1 hb.size, fun j x hj hx => by
    obtain ⟨⟨a, b, c⟩, d, e, f⟩ := h.2 j x hj hx
    exact ⟨⟨by rw [hb.cell (p := ⟨g, j * 3, none⟩) h.1]; exact a, by rw [hb.cell (p := ⟨g, j * 3 + 1, none⟩) h.1]; exact b, by rw [hb.cell (p := ⟨g, j * 3 + 2, none⟩) h.1]; exact c⟩,
      by rw [hb.frozen (p := ⟨g, j * 3, none⟩) h.1]; exact d, by rw [hb.frozen (p := ⟨g, j * 3 + 1, none⟩) h.1]; exact e, by rw [hb.frozen (p := ⟨g, j * 3 + 2, none⟩) h.1]; exact f⟩⟩
def set3 (w : World) (g k : Nat) : World := ((w.setCell ⟨g, k * 3, none⟩ (.int .i64 0)).setCell ⟨g, k * 3 + 1, none⟩ (.int .i64 0)).setCell ⟨g, k * 3 + 2, none⟩ (.string ⟨#[]⟩)
theorem RestV.next {w : World} {g k : Nat} {R : List VV} (h : RestV w g R k) : RestV (set3 w g k) g R (k + 1) :=
  ⟨by simpa [World.setCell, set3] using h.1, fun j x hj hx => by
    obtain ⟨⟨a, b, c⟩, d, e, f⟩ := h.2 j x (by omega) hx
    unfold set3
    refine ⟨⟨?_, ?_, ?_⟩, ?_, ?_, ?_⟩
    · rw [World.cell?_setCell_other _ _ _ _ (by simp <;> omega), World.cell?_setCell_other _ _ _ _ (by simp <;> omega), World.cell?_setCell_other _ _ _ _ (by simp <;> omega)]; exact a
    · rw [World.cell?_setCell_other _ _ _ _ (by simp <;> omega), World.cell?_setCell_other _ _ _ _ (by simp <;> omega), World.cell?_setCell_other _ _ _ _ (by simp <;> omega)]; exact b
    · rw [World.cell?_setCell_other _ _ _ _ (by simp <;> omega), World.cell?_setCell_other _ _ _ _ (by simp <;> omega), World.cell?_setCell_other _ _ _ _ (by simp <;> omega)]; exact c
    · simpa using d
    · simpa using e
    · simpa using f⟩
set_option maxHeartbeats 6400000 in
theorem alike_any {T : Tags} {i j : Nat} {w : World} {p r : Nat} {K : Int} {L : List VV} (h : Dt p K L T i w) (h' : Rt r K L T j w) :
    Calls Try.prog 19 #[.pointer (some ⟨p, 0, none⟩), .pointer (some ⟨r, 0, none⟩)] w fun e w' => e = .returned (.bool true) ∧ Below w.heap.size w w' := by
  obtain ⟨b, dv, h⟩ := h
  obtain ⟨v, h'⟩ := h'
  obtain ⟨ra, rc, rfl, _, _⟩ := h'.row.form2
  have KV := dvalues_any h
  have hl := h.len
  obtain ⟨N, hN⟩ : ∃ N, L.length = N := ⟨_, rfl⟩
  have SC := Lib.hid fun W (hb : Below w.heap.size w W) => (show (W.cell? ⟨r, 1, none⟩ = some (.slice ra N rc) ∧ W.cell? ⟨r, 0, none⟩ = some (.int .i64 K)) ∧ HoldsV W (.slice ra N rc) L from by
    have g := h'.below hb
    have c := g.cells
    have hh := g.row.holds
    rw [hN] at c hh
    exact ⟨⟨c.2.1, c.1⟩, hh⟩)
  have KLn := Lib.hid fun W (hb : Below w.heap.size w W) => dlen_any (h.below hb)
  have KK := Lib.hid fun W (hb : Below w.heap.size w W) => dkind_any (h.below hb)
  rw [hN] at KLn
  have HN := Lib.hid hN
  have H5 := Lib.hid hl
  clear h h' hl
  have hNN : ((N : Int) != (N : Int)) = false := by simp
  have hKK : (K != K) = false := by simp
  go_enter Try.func19, Try.ntmps19
  go_wp2_with fail
  refine KV.mono ?_
  rintro e w1 ⟨V1, rfl, ho, hb⟩
  obtain ⟨la, lc, rfl, _, _⟩ := ho.form2
  have HO := Lib.hid ho
  rw [hN]
  have HB := Lib.hid hb
  have KL1 := KLn.out _ hb.drew
  have KK1 := KK.out _ hb.drew
  have S0 := (SC.out _ hb.drew).1
  clear KV hN ho hb
  go_wp2_with fail
  refine wp_region_mix (fun W => W.cell? ⟨r, 1, none⟩ = some (.slice ra N rc) ∧ W.cell? ⟨r, 0, none⟩ = some (.int .i64 K)) 27 [(true, 0), (true, 1), (true, 2), (true, 3), (true, 4), (true, 5), (true, 6), (true, 7), (true, 8), (true, 9), (true, 11), (true, 12), (true, 13), (true, 14), (true, 15), (false, 10), (true, 16), (true, 17), (true, 18), (true, 19), (true, 21), (true, 22), (true, 23), (true, 24), (false, 20), (true, 25), (true, 26)] (by kernel_rfl) (by decide +kernel) rfl (by decide +kernel) S0 ?_
  iterate 15
    refine wpMix_take (v := ?_) rfl rfl ?_ ?_
    rotate_left
    · (intro W hW; (try dsimp only at hW); go_simp) <;> with_reducible rfl
    simp only [Act.put, List.setIfInBounds_toArray, List.set_cons_zero, List.set_cons_succ]
  refine wpMix_run rfl ?_
  intro K' hK
  go_wp2_with fail
  refine KL1.mono ?_
  rintro e w' ⟨rfl, rfl⟩
  go_wp2_with fail
  refine hK.out _ _ (fun _ => S0) ?_
  clear hK K' KL1
  iterate 8
    refine wpMix_take (v := ?_) rfl rfl ?_ ?_
    rotate_left
    · (intro W hW; (try dsimp only at hW); go_simp) <;> with_reducible rfl
    simp only [Act.put, List.setIfInBounds_toArray, List.set_cons_zero, List.set_cons_succ]
  refine wpMix_run rfl ?_
  intro K' hK
  go_wp2_with fail
  refine KK1.mono ?_
  rintro e w' ⟨rfl, rfl⟩
  go_wp2_with fail
  refine hK.out _ _ (fun _ => S0) ?_
  clear hK K' KK1
  iterate 2
    refine wpMix_take (v := ?_) rfl rfl ?_ ?_
    rotate_left
    · (intro W hW; (try dsimp only at hW); go_simp) <;> with_reducible rfl
    simp only [Act.put, List.setIfInBounds_toArray, List.set_cons_zero, List.set_cons_succ]
  refine wpMix_nil ?_
  have HS0 : Hid (Below w.heap.size w w1.drew ∧ ∀ g, la = some ⟨g, 0, none⟩ → (w.heap.size ≤ g ∧ RestV w1.drew g L 0)) := Lib.hid ⟨HB.out.drew, fun g hg => by
    have hrow := HO.out
    rw [hg] at hrow
    exact ⟨ownsRow_ge hrow g rfl, (RestV.start hrow).below (below_drew1 w1)⟩⟩
  have HLA : Hid (0 < N → ∃ g, la = some ⟨g, 0, none⟩) := Lib.hid fun h0 => by
    rcases HO.out.form with ⟨_, e⟩ | ⟨g, c, e, _⟩
    · have := HN.out; rw [e] at this; simp at this; omega
    · simp only [Value.slice.injEq] at e
      exact ⟨g, e.1⟩
  have HLC : Hid (N ≤ lc) := Lib.hid (by
    have := HO.out.form2
    obtain ⟨a, c, e, h1, _⟩ := this
    simp only [Value.slice.injEq] at e
    rw [e.2.2, ← HN.out]; exact h1)
  have KU := guard_val
  have KE := neq_val
  clear HO S0 KLn KK
  go_wp2_with fail
  go_loopw [39] (fun s wr => ∃ m : Nat, s = .int .i64 m ∧ m ≤ N ∧ Hid (Below w.heap.size w wr ∧ ∀ g, la = some ⟨g, 0, none⟩ → (w.heap.size ≤ g ∧ RestV wr g L m))) (fun s _ => N - (RowKit.intOf s).toNat)
  case atStart => exact ⟨0, rfl, Nat.zero_le _, HS0⟩
  case round =>
    obtain ⟨m, rfl, hm, HS⟩ := hrel
    by_cases hlt : m < N
    · obtain ⟨x, hx⟩ : ∃ x, L[m]? = some x := ⟨L[m]'(HN.out ▸ hlt), List.getElem?_eq_getElem _⟩
      obtain ⟨g, rfl⟩ := HLA.out (by omega)
      obtain ⟨hB, hG⟩ := HS.out
      obtain ⟨hg, hR⟩ := hG g rfl
      obtain ⟨⟨r0, r1, r2⟩, _⟩ := hR.2 m x (Nat.le_refl _) hx
      obtain ⟨G, hGs⟩ : ∃ G, wr.heap.size = G := ⟨_, rfl⟩
      obtain ⟨W1, hW1⟩ : ∃ W1, wr.alloc (.cells #[.int .i64 x.k, .int .i64 x.n, .string x.s] 29) = W1 := ⟨_, rfl⟩
      have hbA : Below wr.heap.size wr W1 := by rw [← hW1]; exact (Below.refl _ wr).alloc (Nat.le_refl _) _
      have hB1 : Below w.heap.size w W1 := hB.trans (hbA.mono hB.size)
      have hz : W1.heap[G]? = some (.cells #[.int .i64 x.k, .int .i64 x.n, .string x.s] 29 (0, 0)) := by rw [← hW1, ← hGs]; exact heap_alloc_new wr _
      have d0 : W1.cell? ⟨G, 0, none⟩ = some (.int .i64 x.k) := by rw [cell_of_row _ _ _ _ _ _ hz]; rfl
      have d1 : W1.cell? ⟨G, 1, none⟩ = some (.int .i64 x.n) := by rw [cell_of_row _ _ _ _ _ _ hz]; rfl
      have d2 : W1.cell? ⟨G, 2, none⟩ = some (.string x.s) := by rw [cell_of_row _ _ _ _ _ _ hz]; rfl
      obtain ⟨⟨c1, c0⟩, hH⟩ := SC.out W1 hB1
      obtain ⟨ad, rfl, e0, e1, e2⟩ := hH.at_ hx
      have hR1 := hR.below hbA
      obtain ⟨⟨s0, s1, s2⟩, f0, f1, f2⟩ := hR1.2 m x (Nat.le_refl _) hx
      have hw64 := wi_step hlt (by have := H5.out; have := HN.out; omega)
      have b0 : (0 : Int) ≤ (m : Int) := Int.natCast_nonneg m
      have b1 : (m : Int) < (N : Int) := Int.ofNat_lt.2 hlt
      have hlc := HLC.out
      have HNX : Hid (∀ nq, Below w.heap.size w (set3 (W1.drewN nq) g m) ∧ ∀ g', some (⟨g, 0, none⟩ : Addr) = some ⟨g', 0, none⟩ → (w.heap.size ≤ g' ∧ RestV (set3 (W1.drewN nq) g m) g' L (m + 1))) := Lib.hid fun nq => by
        refine ⟨(((below_dN hB1 nq).setCell (p := ⟨g, m * 3, none⟩) hg _).setCell (p := ⟨g, m * 3 + 1, none⟩) hg _).setCell (p := ⟨g, m * 3 + 2, none⟩) hg _, fun g' e => ?_⟩
        have e' : g = g' := by simpa using e
        subst e'
        exact ⟨hg, RestV.next (hR1.below (below_drewN W1 nq))⟩
      obtain ⟨k, y, s⟩ := x
      simp only at r0 r1 r2 d0 d1 d2 e0 e1 e2 s0 s1 s2 hW1
      clear hx hR hB hG hbA hB1 hz hH hR1 HS HS0 hg
      go_wp2_with fail
      clear hW1 hGs r0 r1 r2
      go_quiet (fail)
      have HX2 := Lib.hid (HNX.out nq)
      clear d0 d1 d2 e0 e1 e2 HNX
      go_wp2_with fail
      go_roundw
      case rel => exact ⟨m + 1, by go_num, hlt, HX2⟩
      case measure => simp [RowKit.intOf]; omega
    · have FB := Lib.hid HS.out.1
      clear HS HS0
      go_wp2_with fail
      go_ret
      exact ⟨rfl, FB.out⟩
end Go.Proofs.Ytdbaeghhlhkobaa
