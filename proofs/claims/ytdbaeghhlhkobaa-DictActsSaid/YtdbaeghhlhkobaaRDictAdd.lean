/- Contract of the document's own Add. Conditions: a dictionary that was made. -/
import Derived.Test.YtdbaeghhlhkobaaRDictSk
set_option maxRecDepth 100000
namespace Go.Proofs.Ytdbaeghhlhkobaa
open Go.RowKit Go.Maps Go.Sort Go.Lib

section
variable {T : Tags} {i : Nat} {w : World} {p : Nat} {K : Int} {v : Value} {L : List VV}
set_option maxHeartbeats 1600000 in
theorem radd_null (_ : RkAt T i w p K v L) {x : VV} (hk : x.k = 0) : Calls Try.prog 16 #[.pointer (some ⟨p, 0, none⟩), x.val] w fun e w' =>
    e = .returned (.tuple #[.int .i64 0, .int .i64 12]) ∧ Below w.heap.size w w' := by
  obtain ⟨k, n, s⟩ := x
  simp only at hk
  subst hk
  have hb0 := (Below.refl w.heap.size w).alloc (Nat.le_refl _) (.cells #[.int .i64 0, .int .i64 n, .string s] 29)
  have S0 := C3.new w (.int .i64 0) (.int .i64 n) (.string s) 29
  have HB := Lib.hid hb0
  clear hb0
  go_enter Try.func16, Try.ntmps16
  go_wp2_with fail
  refine wp_region_mix (fun W => C3 W w.heap.size (.int .i64 0) (.int .i64 n) (.string s)) 12 [(true, 0), (true, 1), (true, 2), (true, 3), (true, 4), (true, 5), (true, 6), (true, 7), (true, 8), (true, 9), (true, 10), (true, 11)] (by kernel_rfl) (by decide +kernel) rfl (by decide +kernel) S0 ?_
  iterate 4
    refine wpMix_take (v := ?_) rfl rfl ?_ ?_
    rotate_left
    · (intro W hW; (try obtain ⟨hW1, hW2, hW3⟩ := hW); go_simp) <;> with_reducible rfl
    simp only [Act.put, List.setIfInBounds_toArray, List.set_cons_zero, List.set_cons_succ]
  iterate 7
    refine wpMix_skip rfl rfl ?_
    simp only [Act.put, List.setIfInBounds_toArray, List.set_cons_zero, List.set_cons_succ]
  iterate 1
    refine wpMix_take (v := ?_) rfl rfl ?_ ?_
    rotate_left
    · (intro W hW; (try obtain ⟨hW1, hW2, hW3⟩ := hW); go_simp) <;> with_reducible rfl
    simp only [Act.put, List.setIfInBounds_toArray, List.set_cons_zero, List.set_cons_succ]
  refine wpMix_nil ?_
  go_wp2_with fail
  go_ret2
  exact ⟨rfl, HB.out.drew⟩
/-- behind the test of fitness -/
theorem radd_state (h : RkAt T i w p K v L) (x : VV) {W : World} (hb : Below (w.heap.size + 1) (w.alloc (.cells #[.int .i64 x.k, .int .i64 x.n, .string x.s] 29)) W) :
    AddS w x K p W ∧ RkAt T i W p K v L ∧ Below w.heap.size w W ∧ W.heap[w.heap.size]? = some (.cells #[.int .i64 x.k, .int .i64 x.n, .string x.s] 29 (0, 0)) := by
  have hz : (w.alloc (.cells #[.int .i64 x.k, .int .i64 x.n, .string x.s] 29)).heap.size = w.heap.size + 1 := by simp
  have hB := ((Below.refl w.heap.size w).alloc (Nat.le_refl _) (.cells #[.int .i64 x.k, .int .i64 x.n, .string x.s] 29)).trans (hb.mono (by omega))
  have hD := h.below hB
  have hx : W.heap[w.heap.size]? = some (.cells #[.int .i64 x.k, .int .i64 x.n, .string x.s] 29 (0, 0)) := (hb.block w.heap.size (by omega)).trans (heap_alloc_new w _)
  exact ⟨⟨by rw [cell_of_row _ _ _ _ _ _ hx]; rfl, by rw [cell_of_row _ _ _ _ _ _ hx]; rfl, by rw [cell_of_row _ _ _ _ _ _ hx]; rfl, hD.cells.1⟩, hD, hB, hx⟩
/-- the new value behind the row -/
theorem radd_last (h : RkAt T i w p K v L) {x : VV} (hx : x.ty) (hl : L.length < 512) {X : World} (hX : RkAt T i X p K v L) (hB : Below w.heap.size w X) (hbx : X.heap[w.heap.size]? = some (.cells #[.int .i64 x.k, .int .i64 x.n, .string x.s] 29 (0, 0))) :
      ∃ g c Z, (∀ ty, (Builtin.append_ #[22, 22] ty #[v, .slice (some ⟨X.heap.size, 0, none⟩) 1 1]).run Try.prog (X.drew.alloc (.cells #[.int .i64 x.k, .int .i64 x.n, .string x.s] 29)) = .ok (.slice (some ⟨g, 0, none⟩) (L.length + 1) c) Z) ∧
        Z.frozen? ⟨p, 1, none⟩ = false ∧ Z.cell? ⟨p, 1, none⟩ = some v ∧ Z.heap[w.heap.size]? = some (.cells #[.int .i64 x.k, .int .i64 x.n, .string x.s] 29 (0, 0)) ∧ (Z.setCell ⟨p, 1, none⟩ (.slice (some ⟨g, 0, none⟩) (L.length + 1) c)).cell? ⟨p, 1, none⟩ = some (.slice (some ⟨g, 0, none⟩) (L.length + 1) c) ∧
        Goes T i w (Rt p K (L ++ [x])) (Z.setCell ⟨p, 1, none⟩ (.slice (some ⟨g, 0, none⟩) (L.length + 1) c)) := by
  have hne := hX.ne
  have hsX := hB.size
  have hpX := lt_of_heap hX.head
  have hpw : p < w.heap.size := lt_of_heap h.head
  obtain ⟨v', Z, hr, hrow, hgr, hwh⟩ := push_value (w := X.drew) (hX.row.of_block (w' := X.drew) (fun _ _ => rfl)) (Nat.zero_le _) x (by omega)
  have hpZ : Z.heap[p]? = some (.cells #[.int .i64 K, v] 56 (0, 0)) := (hgr.block p hpX (fun e => hne p e.symm rfl)).trans hX.head
  rcases hrow.form with ⟨_, e⟩ | ⟨g, c, e, hgc, hcm, _, hgZ⟩
  · simp at e
  rw [List.length_append] at e
  subst e
  have hgT : g < w.heap.size → T g = some i := fun hg => by
    rcases hwh with e | e
    · exact h.tr g e.symm
    · have e' : g = X.heap.size + 1 := by simpa [Value.ownBlock] using e
      omega
  have hgp : g ≠ p := fun e => by
    rcases hwh with e' | e'
    · exact hne g e'.symm e
    · have e' : g = X.heap.size + 1 := by simpa [Value.ownBlock] using e'
      omega
  have hc1 : Z.cell? ⟨p, 1, none⟩ = some v := by rw [cell_of_row _ _ _ _ _ _ hpZ]; rfl
  refine ⟨g, c, Z, hr, free_of_row hpZ 1, hc1, ?_, World.cell?_setCell_same _ _ _ hc1, ?_⟩
  · exact (hgr.block _ (lt_of_heap hbx) (fun e => by have := h.row.lt _ e.symm; omega)).trans hbx
  have E1 : Else (fun k => T k = some i) w X := Else.of_below hB
  have E3 : Else (fun k => T k = some i) w Z := (E1.drew).trans (Else.of_grown hgr) (fun x hx => .inl (h.tr x hx))
  refine ⟨T.one w.heap.size (some i), T.one_next w _, E3.setCell (.inl h.tp) _, _, {
    head := by rw [heap_set hpZ]; rfl
    tp := by unfold Tags.one; rw [if_pos hpw]; exact h.tp
    row := (show RowV 0 _ (L ++ [x]) Z from by rw [RowV, List.length_append]; rw [RowV, List.length_append] at hrow; exact hrow).of_block fun g' hg' => Below.heap_setCell _ _ _ _ (by
      have e : g = g' := by simpa [Value.ownBlock] using hg'
      subst e
      exact hgp)
    tr := fun g' hg' => by
      have e : g = g' := by simpa [Value.ownBlock] using hg'
      subst e
      unfold Tags.one
      split
      · rename_i hlt; exact hgT hlt
      · rfl
    k1 := h.k1
    k4 := h.k4
    len := by rw [List.length_append]; simp; omega
    ty := fun y hy => by
      rcases List.mem_append.1 hy with hy | hy
      · exact h.ty y hy
      · simp at hy; subst hy; exact hx }⟩
set_option maxHeartbeats 3200000 in
theorem radd_val (h : RkAt T i w p K v L) {x : VV} (hx : x.ty) (hk : x.k ≠ 0) : Calls Try.prog 16 #[.pointer (some ⟨p, 0, none⟩), x.val] w fun e w' =>
    e = .returned (.tuple #[.int .i64 (addI K L x), .int .i64 (addE K L x)]) ∧ Hid (Goes T i w (Rt p K (addL K L x)) w') := by
  have hb0 : Below (w.heap.size + 1) (w.alloc (.cells #[.int .i64 x.k, .int .i64 x.n, .string x.s] 29)) (w.alloc (.cells #[.int .i64 x.k, .int .i64 x.n, .string x.s] 29)) := Below.refl _ _
  obtain ⟨s0, h0, hB0, _⟩ := radd_state h x hb0
  have S0 : AddS w x K p (w.alloc (.cells #[.int .i64 x.k, .int .i64 x.n, .string x.s] 29)).drew := s0
  have KF := Lib.hid (fun W => rfits_any (x := x) hx.inI h.k1 h.k4 W)
  have b0 : (x.k == 0) = false := by rw [beq_eq_false_iff_ne]; exact hk
  have hok : okV K x = fitsV K x := by unfold okV; rw [b0]; rfl
  have HN := Lib.hid (fun W => radd_state h x (W := W))
  obtain ⟨va, vc, rfl, _, _⟩ := h.row.form2
  have HB0 := Lib.hid hb0
  have HI := Lib.hid (show x.ty ∧ RkAt T i w p K (.slice va L.length vc) L from ⟨hx, h⟩)
  have ei : ∀ f, fitsV K x = f → (addI K L x = if f then (posV L x).getD (if 512 ≤ L.length then 0 else L.length) else 0) ∧ addE K L x = (if f then (if (posV L x).isSome then 0 else if 512 ≤ L.length then 7 else 0) else 12) ∧ addL K L x = (if f && !(posV L x).isSome && decide (L.length < 512) then L ++ [x] else L) := fun f e => by
    unfold addI addE addL; rw [hok, e]; exact ⟨rfl, rfl, rfl⟩
  have EI := Lib.hid ei
  obtain ⟨q, hq⟩ : ∃ q, addI K L x = q := ⟨_, rfl⟩
  obtain ⟨r, hr⟩ : ∃ r, addE K L x = r := ⟨_, rfl⟩
  obtain ⟨R, hR⟩ : ∃ R, addL K L x = R := ⟨_, rfl⟩
  have HQ := Lib.hid (And.intro hq hr)
  have HR := Lib.hid hR
  obtain ⟨k, n, s⟩ := x
  obtain ⟨f, hf⟩ : ∃ f, fitsV K ⟨k, n, s⟩ = f := ⟨_, rfl⟩
  have HF := Lib.hid hf
  simp only [AddS] at *
  rw [hq, hr, hR]
  rw [hf] at KF
  clear ei hf hq hr hR s0 h0 hB0 h hx hok hk hb0
  go_enter Try.func16, Try.ntmps16
  go_wp2_with fail
  refine wp_region_mix (fun W => W.cell? ⟨w.heap.size, 0, none⟩ = some (.int .i64 k) ∧ W.cell? ⟨w.heap.size, 1, none⟩ = some (.int .i64 n) ∧ W.cell? ⟨w.heap.size, 2, none⟩ = some (.string s) ∧ W.cell? ⟨p, 0, none⟩ = some (.int .i64 K)) 12 [(true, 0), (true, 1), (true, 2), (true, 3), (true, 4), (true, 5), (true, 6), (true, 7), (true, 8), (false, 9), (true, 10), (true, 11)] (by kernel_rfl) (by decide +kernel) rfl (by decide +kernel) S0 ?_
  iterate 9
    refine wpMix_take (v := ?_) rfl rfl ?_ ?_
    rotate_left
    · (intro W hW; (try dsimp only at hW); go_simp) <;> with_reducible rfl
    simp only [Act.put, List.setIfInBounds_toArray, List.set_cons_zero, List.set_cons_succ]
  refine wpMix_run rfl ?_
  intro K' hK
  go_wp2_with fail
  refine (KF.out _).mono ?_
  rintro e w1 ⟨rfl, hb⟩
  have hb1 := add_next HB0.out ((below_drew1 _).trans hb)
  have HB1 := Lib.hid hb1
  obtain ⟨s1, hD1, hB1, hx1⟩ := HN.out _ hb1
  have KFi := rfind_any hD1 ⟨k, n, s⟩
  have HB := Lib.hid hB1
  clear hb hb1 hB1 hx1 KF hD1
  go_wp2_with fail
  refine hK.out _ _ (fun _ => s1) ?_
  clear hK K'
  have s2 := s1.1
  have s3 := s1.2.1
  have s4 := s1.2.2.1
  clear s1
  iterate 2
    refine wpMix_take (v := ?_) rfl rfl ?_ ?_
    rotate_left
    · (intro W hW; (try dsimp only at hW); go_simp) <;> with_reducible rfl
    simp only [Act.put, List.setIfInBounds_toArray, List.set_cons_zero, List.set_cons_succ]
  refine wpMix_nil ?_
  cases f with
  | false =>
    obtain ⟨e1, e2, e3⟩ := EI.out false HF.out
    simp only [Bool.false_eq_true, if_false, Bool.false_and] at e1 e2 e3
    obtain rfl : q = 0 := HQ.out.1.symm.trans e1
    obtain rfl : r = 12 := HQ.out.2.symm.trans e2
    have eR : L = R := e3.symm.trans HR.out
    have FIN : Hid (Goes T i w (Rt p K R) w1) := Lib.hid (eR ▸ rt_goes HI.out.2 HB.out)
    clear eR HR HB EI HI e1 e2 e3 HQ HN HB1 HF KFi
    go_wp2_with fail
    go_ret2
    exact ⟨rfl, FIN⟩
  | true =>
    obtain ⟨e1, e2, e3⟩ := EI.out true HF.out
    simp only [if_true, Bool.true_and] at e1 e2 e3
    obtain ⟨o, ho⟩ : ∃ o, posV L ⟨k, n, s⟩ = o := ⟨_, rfl⟩
    rw [ho] at KFi e1 e2 e3
    cases o with
    | some j =>
      simp only [Option.getD_some, Option.isSome_some, if_true, Bool.not_true, Bool.false_and, Bool.false_eq_true, if_false] at KFi e1 e2 e3
      obtain rfl : q = j := HQ.out.1.symm.trans e1
      obtain rfl : r = 0 := HQ.out.2.symm.trans e2
      have eR : L = R := e3.symm.trans HR.out
      have FIN : Hid (∀ W, Below w.heap.size w W → Goes T i w (Rt p K R) W) := Lib.hid (fun W hb => eR ▸ rt_goes HI.out.2 hb)
      clear eR HR EI HI e1 e2 e3 HQ HN HB1 HF ho
      go_wp2_with fail
      refine KFi.mono ?_
      rintro e w2 ⟨rfl, hb⟩
      have FIN2 := Lib.hid (FIN.out w2 (HB.out.trans (hb.mono HB.out.size)))
      clear KFi hb FIN HB
      go_wp2_with fail
      go_ret2
      exact ⟨rfl, FIN2⟩
    | none =>
      simp only [Option.getD_none, Option.isSome_none, Bool.false_eq_true, if_false, Bool.not_false, Bool.true_and] at KFi e1 e2 e3
      by_cases hl : L.length < 512
      · rw [if_neg (by omega)] at e1 e2
        rw [decide_eq_true hl] at e3
        simp only [if_true] at e3
        have hN : L.length = q := e1.symm.trans HQ.out.1
        obtain rfl : r = 0 := HQ.out.2.symm.trans e2
        have eR : L ++ [⟨k, n, s⟩] = R := e3.symm.trans HR.out
        have t0 : decide ((512 : Int) ≤ (L.length : Int)) = false := decide_eq_false (by omega)
        have HL := Lib.hid hl
        have HNN := Lib.hid hN
        rw [hN] at t0
        have ER := Lib.hid eR
        have hql : q < 512 := by omega
        have wsub : IntKind.i64.wrap ((q : Int) + 1 - 1) = (q : Int) := by rw [IntKind.wrap_i64]; omega
        have HW : Hid (wrap64 (q : Int) = (q : Int)) := Lib.hid (by unfold wrap64; omega)
        clear EI e1 e2 e3 HQ HF ho hl HR hN eR hql
        go_wp2_with fail
        refine KFi.mono ?_
        rintro e w2 ⟨rfl, hb⟩
        have hb2 := add_next HB1.out hb
        obtain ⟨⟨y0, y1, y2, _⟩, hX, hBX, hbX⟩ := HN.out _ hb2
        have hX2 := radd_last HI.out.2 HI.out.1 HL.out hX hBX hbX
        have hc2 := hX.cells.2.1
        rw [HNN.out] at hX2 hc2
        obtain ⟨g, c, Z, happ, hfZ, hcZ, hbZ, hcZ2, hG⟩ := hX2
        rw [ER.out] at hG
        have FIN := Lib.hid hG
        have HA : Hid (∀ ty, (Builtin.append_ #[22, 22] ty #[.slice va q vc, .slice (some ⟨w2.heap.size, 0, none⟩) 1 1]).run Try.prog (w2.drew.alloc (.cells #[.int .i64 k, .int .i64 n, .string s] 29)) = .ok (.slice (some ⟨g, 0, none⟩) (q + 1) c) Z) := Lib.hid happ
        clear KFi hb hb2 hX hBX hbX happ hG HN HB HB1 HI HL s2 s3 s4
        go_wp2_with fail
        refine wp_region_mix (fun W => W.cell? ⟨p, 1, none⟩ = some (.slice va q vc) ∧ W.cell? ⟨w.heap.size, 0, none⟩ = some (.int .i64 k) ∧ W.cell? ⟨w.heap.size, 1, none⟩ = some (.int .i64 n) ∧ W.cell? ⟨w.heap.size, 2, none⟩ = some (.string s)) 10 [(true, 0), (true, 1), (true, 2), (true, 3), (true, 4), (true, 5), (false, 6), (false, 7), (true, 8), (true, 9), (false, 10)] (by kernel_rfl) (by decide +kernel) rfl (by decide +kernel) ⟨hc2, y0, y1, y2⟩ ?_
        iterate 6
          refine wpMix_take (v := ?_) rfl rfl ?_ ?_
          rotate_left
          · (intro W hW; (try dsimp only at hW); go_simp) <;> with_reducible rfl
          simp only [Act.put, List.setIfInBounds_toArray, List.set_cons_zero, List.set_cons_succ]
        refine wpMix_run rfl ?_
        intro K' hK
        go_wp2_with fail
        refine hK.out _ _ (fun _ => ⟨cell_alloc hc2, cell_alloc y0, cell_alloc y1, cell_alloc y2⟩) ?_
        clear hK K'
        refine wpMix_run rfl ?_
        intro K' hK
        refine wpList_append_run rfl _ _ 22 rfl rfl rfl (HA.out _) ?_
        go_wp2_with fail
        refine hK.out _ _ (fun _ => ⟨hcZ, by rw [cell_of_row _ _ _ _ _ _ hbZ]; rfl, by rw [cell_of_row _ _ _ _ _ _ hbZ]; rfl, by rw [cell_of_row _ _ _ _ _ _ hbZ]; rfl⟩) ?_
        clear hK K' HA hc2 y0 y1 y2
        iterate 2
          refine wpMix_take (v := ?_) rfl rfl ?_ ?_
          rotate_left
          · (intro W hW; (try dsimp only at hW); go_simp) <;> with_reducible rfl
          simp only [Act.put, List.setIfInBounds_toArray, List.set_cons_zero, List.set_cons_succ]
        refine wpMix_run rfl ?_
        intro K' hK
        go_wp2_with fail
        refine hK.out _ _ (fun h => absurd rfl h) ?_
        clear hK K'
        refine wpMix_nil ?_
        go_wp2_with fail
        go_ret2
        exact ⟨by simp [HW.out], FIN⟩
      · have hl' : 512 ≤ L.length := by omega
        rw [if_pos hl'] at e1 e2
        rw [decide_eq_false hl] at e3
        simp only [Bool.false_eq_true, if_false] at e3
        obtain rfl : q = 0 := HQ.out.1.symm.trans e1
        obtain rfl : r = 7 := HQ.out.2.symm.trans e2
        have eR : L = R := e3.symm.trans HR.out
        have FIN : Hid (∀ W, Below w.heap.size w W → Goes T i w (Rt p K R) W) := Lib.hid (fun W hb => eR ▸ rt_goes HI.out.2 hb)
        have t0 : decide ((512 : Int) ≤ (L.length : Int)) = true := decide_eq_true (by omega)
        have HC := Lib.hid (fun W hb => (HN.out W hb).2.1.cells.2.1)
        clear eR HR EI HI e1 e2 e3 HQ HN HF ho hl hl'
        generalize L.length = N at *
        go_wp2_with fail
        refine KFi.mono ?_
        rintro e w2 ⟨rfl, hb⟩
        have c2 := HC.out w2 (add_next HB1.out hb)
        have FIN2 := Lib.hid (FIN.out w2 (HB.out.trans (hb.mono HB.out.size)))
        clear KFi hb FIN HB HB1 HC
        go_wp2_with fail
        go_ret2
        exact ⟨rfl, FIN2⟩
theorem radd_any (h : Rt p K L T i w) {x : VV} (hx : x.ty) : Calls Try.prog 16 #[.pointer (some ⟨p, 0, none⟩), x.val] w fun e w' =>
    e = .returned (.tuple #[.int .i64 (addI K L x), .int .i64 (addE K L x)]) ∧ Hid (Goes T i w (Rt p K (addL K L x)) w') := by
  obtain ⟨v, h⟩ := h
  by_cases hk : x.k = 0
  · have e0 : okV K x = false := by unfold okV; rw [hk]; rfl
    have e1 : addI K L x = 0 := by unfold addI; rw [e0]; rfl
    have e2 : addE K L x = 12 := by unfold addE; rw [e0]; rfl
    have e3 : addL K L x = L := by unfold addL; rw [e0]; rfl
    rw [e1, e2, e3]
    exact (radd_null h hk).mono fun e w' ⟨a, hb⟩ => ⟨a, Lib.hid (rt_goes h hb)⟩
  · exact radd_val h hx hk
end
end Go.Proofs.Ytdbaeghhlhkobaa
