/- Contracts of Add (all cases), Copy and Room of a dictionary. Conditions: a dictionary that was made; as stated. -/
import Derived.Test.YtdbaeghhlhkobaaDictAdd
import Derived.Shelf.SlMaps.Clone
set_option maxRecDepth 100000
namespace Go.Proofs.Ytdbaeghhlhkobaa
open Go.RowKit Go.Maps Go.Sort Go.Lib Go.Shelf

theorem clone_map {w : World} {b : Nat} {L : List VV} (h : MAt w b L) :
    Calls Try.prog 27 #[.map (some b)] w fun e w' => e = .returned (.map (some w.heap.size)) ∧ MAt w' w.heap.size L ∧ Below w.heap.size w w' := by
  obtain ⟨D, ho, hD⟩ := h
  refine (AnyW.maps_Clone_owns Try.cloneVals 29 (plainElem Try.prog 3) b L.length D w ho).mono ?_
  rintro e w' ⟨rfl, h1, _, h2⟩
  exact ⟨rfl, ⟨D, h1, hD⟩, h2⟩

section
variable {T : Tags} {i j : Nat} {w : World} {p : Nat} {K : Int} {L : List VV}
theorem dadd_any (h : Dt p K L T i w) {x : VV} (hx : x.ty) : Calls Try.prog 15 #[.pointer (some ⟨p, 0, none⟩), x.val] w fun e w' =>
    e = .returned (.tuple #[.int .i64 (addI K L x), .int .i64 (addE K L x)]) ∧ Hid (Goes T i w (Dt p K (addL K L x)) w') := by
  obtain ⟨b, v, h⟩ := h
  by_cases hk : x.k = 0
  · have e0 : okV K x = false := by unfold okV; rw [hk]; rfl
    have e1 : addI K L x = 0 := by unfold addI; rw [e0]; rfl
    have e2 : addE K L x = 12 := by unfold addE; rw [e0]; rfl
    have e3 : addL K L x = L := by unfold addL; rw [e0]; rfl
    rw [e1, e2, e3]
    exact (dadd_null h hk).mono fun e w' ⟨a, hb⟩ => ⟨a, Lib.hid (dt_goes h hb)⟩
  · exact dadd_val h hx hk

set_option maxHeartbeats 3200000 in
theorem dcopy_any (h : Dt p K L T i w) : Calls Try.prog 11 #[.pointer (some ⟨p, 0, none⟩)] w fun e w' => ∃ q, e = .returned (.pointer (some ⟨q, 0, none⟩)) ∧ Below w.heap.size w w' ∧ ∃ T', Next T w T' ∧ Dt q K L T' j w' := by
  obtain ⟨b, v, h⟩ := h
  obtain ⟨c0, c1, c2, _⟩ := h.cells
  have KM := dmade_at h.k1 c0
  have KC := clone_map (h.map.of_block (w' := w.drew) rfl)
  have SC := Lib.hid fun W (hb : Below w.heap.size w W) => (show (W.cell? ⟨p, 0, none⟩ = some (.int .i64 K) ∧ W.cell? ⟨p, 1, none⟩ = some (.map (some b)) ∧ W.cell? ⟨p, 2, none⟩ = some v) ∧ RowV 0 v L W from by
    have h' := h.below hb
    exact ⟨⟨h'.cells.1, h'.cells.2.1, h'.cells.2.2.1⟩, h'.row⟩)
  have HG := Lib.hid h
  have hl : L.length ≤ 1000000 := by have := h.len; omega
  have HL := Lib.hid hl
  clear h hl
  go_enter Try.func11, Try.ntmps11
  go_wp2_with fail
  refine KM.mono ?_
  rintro e w' ⟨rfl, rfl⟩
  clear KM
  go_wp2_with fail
  refine wp_region_mix (fun W => W.cell? ⟨p, 0, none⟩ = some (.int .i64 K) ∧ W.cell? ⟨p, 1, none⟩ = some (.map (some b)) ∧ W.cell? ⟨p, 2, none⟩ = some v) 17 [(true, 0), (true, 1), (true, 2), (true, 3), (true, 4), (true, 5), (true, 6), (true, 7), (true, 9), (true, 10), (true, 11), (true, 12), (false, 8), (false, 13), (false, 14), (false, 15), (false, 16)] (by kernel_rfl) (by decide +kernel) rfl (by decide +kernel) ⟨c0, c1, c2⟩ ?_
  iterate 12
    refine wpMix_take (v := ?_) rfl rfl ?_ ?_
    rotate_left
    · (intro W hW; (try dsimp only at hW); go_simp) <;> with_reducible rfl
    simp only [Act.put, List.setIfInBounds_toArray, List.set_cons_zero, List.set_cons_succ]
  refine wpMix_run rfl ?_
  intro K' hK
  go_wp2_with fail
  refine KC.mono ?_
  rintro e w1 ⟨rfl, hM, hb⟩
  have hb1 : Below w.heap.size w w1 := (below_drew1 w).trans hb
  have KS := clone_vals (SC.out _ hb1).2 HL.out
  have HM := Lib.hid hM
  go_wp2_with fail
  refine hK.out _ _ (fun _ => (SC.out _ hb1).1) ?_
  clear hK K' KC hM
  refine wpMix_run rfl ?_
  intro K' hK
  go_wp2_with fail
  refine KS.mono ?_
  rintro e w2 ⟨V2, rfl, hR, hb2⟩
  obtain ⟨va2, vc2, rfl, _, _⟩ := hR.form2
  have hB2 : Below w.heap.size w w2 := hb1.trans (hb2.mono hb1.size)
  have HR := Lib.hid hR
  have HM2 := Lib.hid (HM.out.of_block (hb2.block _ HM.out.lt))
  have hge : ∀ g, (Value.slice va2 L.length vc2).ownBlock = some g → w1.heap.size ≤ g := fun g hg => ownsRow_ge hR g hg
  have HGE := Lib.hid hge
  have hMlt := HM.out.lt
  have HS := Lib.hid (And.intro hMlt (And.intro hb1.size hb2.size))
  go_wp2_with fail
  refine hK.out _ _ (fun _ => (SC.out _ hB2).1) ?_
  clear hK K' KS hR hb2 hb hb1 hge hMlt HM
  refine wpMix_run rfl ?_
  intro K' hK
  go_wp2_with fail
  refine hK.out _ _ (fun _ => (SC.out _ hB2).1) ?_
  clear hK K'
  have hB3 : Below w.heap.size w (w2.alloc (.cells #[.int .i64 K, .map (some w.heap.size), .slice va2 L.length vc2] 50)) := hB2.alloc hB2.size _
  refine wpMix_run rfl ?_
  intro K' hK
  go_wp2_with fail
  refine hK.out _ _ (fun _ => (SC.out _ hB3).1) ?_
  clear hK K'
  refine wpMix_run rfl ?_
  intro K' hK
  go_wp2_with fail
  refine hK.out _ _ (fun _ => (SC.out _ hB3).1) ?_
  clear hK K'
  refine wpMix_nil ?_
  have FIN : Hid (∃ q, (Ending.returned (.pointer (some ⟨w2.heap.size, 0, none⟩)) : Ending) = .returned (.pointer (some ⟨q, 0, none⟩)) ∧ Below w.heap.size w (w2.alloc (.cells #[.int .i64 K, .map (some w.heap.size), .slice va2 L.length vc2] 50)) ∧
      ∃ T', Next T w T' ∧ Dt q K L T' j (w2.alloc (.cells #[.int .i64 K, .map (some w.heap.size), .slice va2 L.length vc2] 50))) := Lib.hid (by
    obtain ⟨m1, m2, m3⟩ := HS.out
    have hge := HGE.out
    have H := HG.out
    refine ⟨_, rfl, hB3, T.one w.heap.size (some j), T.one_next w _, w.heap.size, .slice va2 L.length vc2, {
      head := heap_alloc_new w2 _
      tp := by unfold Tags.one; rw [if_neg (by omega)]
      map := HM2.out.of_block (heap_alloc_old w2 _ HM2.out.lt)
      tb := by unfold Tags.one; rw [if_neg (by omega)]
      row := RowV.below (ownsRow_rebase3 HR.out fun _ _ => Nat.zero_le _) ((Below.refl _ w2).alloc (Nat.le_refl _) _)
      tr := fun g hg => by
        have := hge g hg
        unfold Tags.one; rw [if_neg (by omega)]
      k1 := H.k1
      k4 := H.k4
      len := H.len
      ty := H.ty }⟩)
  clear HR HM2 HGE HS hB2 hB3 SC HG HL c0 c1 c2
  go_wp2_with fail
  go_ret
  exact FIN.out
end
end Go.Proofs.Ytdbaeghhlhkobaa
