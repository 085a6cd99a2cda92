/- Contract of Add of a dictionary. Conditions: a dictionary that was made. -/
import Derived.Test.YtdbaeghhlhkobaaDictSk
set_option maxRecDepth 100000
namespace Go.Proofs.Ytdbaeghhlhkobaa
open Go.RowKit Go.Maps Go.Sort Go.Lib

/-- what Add says, and what it leaves -/
def addI (K : Int) (L : List VV) (x : VV) : Nat := if okV K x then (posV L x).getD (if 512 ≤ L.length then 0 else L.length) else 0
def addE (K : Int) (L : List VV) (x : VV) : Int := if okV K x then (if (posV L x).isSome then 0 else if 512 ≤ L.length then 7 else 0) else 12
def addL (K : Int) (L : List VV) (x : VV) : List VV := if okV K x && !(posV L x).isSome && decide (L.length < 512) then L ++ [x] else L

theorem val_where {P : Program} {w : World} (B : Nat) (t ty e : TypeId) (i : TypeInfo) (z : Value) (ht : P.underlying t = some (.slice e)) (hi : P.info? e = some i) (hz : i.zero = some z) (hsize : i.size = 3) (hby : i.bytes = 32)
    (v : Value) (n : Nat) (xs : List Value) (hown : w.ownsRow B e 3 v n xs) (a : Addr) (m c : Nat) (hm : 0 < m) (news : List Value) (hl : news.length = m * 3) (hnews : ∀ j u, news[j]? = some u → w.cell? (a.add j) = some u) (h1 : ∀ u ∈ news, u.oneCell' = true)
    (hb : (n + m) * 32 ≤ 140737488355328) {v' : Value} {w' : World} (hr : (Builtin.append_ #[t, t] ty #[v, .slice (some a) m c]).run P w = .ok v' w') : v'.ownBlock = v.ownBlock ∨ v'.ownBlock = some w.heap.size := by
  have hl1 : news.length = m * i.size := by rw [hsize]; exact hl
  have hbb : (n + m) * i.bytes ≤ 140737488355328 := by rw [hby]; exact hb
  rcases hown.2 with ⟨rfl, rfl⟩ | ⟨g, cap, cur, rfl, _, hg, hnc, hcm, hcs, htake⟩
  · have hr2 := run_append_nil (P := P) w t ty e i z ht hi hz a m c news hl1 hnews (by omega) (by omega) (by have hb := hbb; rw [Nat.zero_add] at hb; omega)
    rw [hr2] at hr
    simp only [Result.ok.injEq] at hr
    exact .inr (by rw [← hr.1]; rfl)
  · by_cases hroom : n + m ≤ cap
    · have hr2 := run_append_room (P := P) w t ty e i ht hi g n cap cur hg a m c news hl1 hnews h1 hroom (by rw [hsize, hl, hcs]; omega)
      rw [hr2] at hr
      simp only [Result.ok.injEq] at hr
      exact .inl (by rw [← hr.1]; rfl)
    · have holds : ∀ j u, xs[j]? = some u → w.cell? ((⟨g, 0, none⟩ : Addr).add j) = some u := hown.cells (g := g) rfl
      have hr2 := run_append_grow (P := P) w t ty e i z ht hi hz ⟨g, 0, none⟩ n cap xs (by rw [hsize]; exact hown.1) holds a m c news hl1 hnews (by omega) (by omega) (growslice_fits (by omega) hbb)
      rw [hr2] at hr
      simp only [Result.ok.injEq] at hr
      exact .inr (by rw [← hr.1]; rfl)
/-- a value more behind a row: where it lies -/
theorem push_value {w : World} {B : Nat} {v : Value} {L : List VV} (h : RowV B v L w) (hB : B ≤ w.heap.size) (x : VV) (hl : L.length ≤ 1000000) :
    ∃ v' w', (∀ ty, (Builtin.append_ #[22, 22] ty #[v, .slice (some ⟨w.heap.size, 0, none⟩) 1 1]).run Try.prog (w.alloc (.cells #[.int .i64 x.k, .int .i64 x.n, .string x.s] 29)) = .ok v' w') ∧
      RowV B v' (L ++ [x]) w' ∧ w.grownBy w' v.ownBlock ∧ (v'.ownBlock = v.ownBlock ∨ v'.ownBlock = some (w.heap.size + 1)) := by
  obtain ⟨v', w', hr, h2, h3⟩ := app_value h hB x (by omega)
  obtain ⟨i, hi, hz0, hz1, hz2⟩ := info_parts info_value
  have hown' : (w.alloc (.cells #[.int .i64 x.k, .int .i64 x.n, .string x.s] 29)).ownsRow B 29 3 v L.length (flatC L) := World.ownsRow.alloc h _
  have hnew : ∀ j u, [Value.int .i64 x.k, .int .i64 x.n, .string x.s][j]? = some u → (w.alloc (.cells #[.int .i64 x.k, .int .i64 x.n, .string x.s] 29)).cell? ((⟨w.heap.size, 0, none⟩ : Addr).add j) = some u := fun j u hj => by
    rw [Addr.add_at, Nat.zero_add, cell_of_row _ _ _ _ _ _ (heap_alloc_new w _)]
    simpa using hj
  have hone : ∀ u ∈ [Value.int .i64 x.k, .int .i64 x.n, .string x.s], u.oneCell' = true := fun u hu => by simp at hu; rcases hu with rfl | rfl | rfl <;> rfl
  have hw := val_where (P := Try.prog) B 22 0 29 i _ Try.underlying22 hi hz0 hz1 hz2 v L.length (flatC L) hown' ⟨w.heap.size, 0, none⟩ 1 1 (by omega) [.int .i64 x.k, .int .i64 x.n, .string x.s] rfl hnew hone (by omega) (hr 0)
  refine ⟨v', w', hr, h2, h3, ?_⟩
  rcases hw with e | e
  · exact .inl e
  · exact .inr (by simpa using e)

section
variable {T : Tags} {i : Nat} {w : World} {p : Nat} {K : Int} {b : Nat} {v : Value} {L : List VV}
theorem dt_goes (h : DkAt T i w p K b v L) {w' : World} (hb : Below w.heap.size w w') : Goes T i w (Dt p K L) w' :=
  (Goes.start (A := Dt p K L) ⟨b, v, h⟩).below (Dt.framed p K L) hb
set_option maxHeartbeats 1600000 in
theorem dadd_null (h : DkAt T i w p K b v L) {x : VV} (hk : x.k = 0) : Calls Try.prog 15 #[.pointer (some ⟨p, 0, none⟩), x.val] w fun e w' =>
    e = .returned (.tuple #[.int .i64 0, .int .i64 12]) ∧ Below w.heap.size w w' := by
  obtain ⟨k, n, s⟩ := x
  simp only at hk
  subst hk
  have hb0 := (Below.refl w.heap.size w).alloc (Nat.le_refl _) (.cells #[.int .i64 0, .int .i64 n, .string s] 29)
  have h1 := h.below hb0
  have KM := dmade_at h.k1 h1.cells.1
  have S0 := C3.new w (.int .i64 0) (.int .i64 n) (.string s) 29
  have HB := Lib.hid hb0
  clear h h1 hb0
  go_enter Try.func15, Try.ntmps15
  go_wp2_with fail
  refine KM.mono ?_
  rintro e w' ⟨rfl, rfl⟩
  clear KM
  go_wp2_with fail
  refine wp_region_mix (fun W => C3 W w.heap.size (.int .i64 0) (.int .i64 n) (.string s)) 12 [(true, 0), (true, 1), (true, 2), (true, 3), (true, 4), (true, 5), (true, 6), (true, 7), (true, 8), (true, 9), (true, 10), (true, 11)] (by kernel_rfl) (by decide +kernel) rfl (by decide +kernel) S0 ?_
  iterate 4
    refine wpMix_take (v := ?_) rfl rfl ?_ ?_
    rotate_left
    · (intro W hW; (try obtain ⟨hW1, hW2, hW3⟩ := hW); go_simp) <;> with_reducible rfl
    simp only [Act.put, List.setIfInBounds_toArray, List.set_cons_zero, List.set_cons_succ]
  iterate 7
    refine wpMix_skip rfl rfl ?_
    simp only [Act.put, List.setIfInBounds_toArray, List.set_cons_zero, List.set_cons_succ]
  iterate 1
    refine wpMix_take (v := ?_) rfl rfl ?_ ?_
    rotate_left
    · (intro W hW; (try obtain ⟨hW1, hW2, hW3⟩ := hW); go_simp) <;> with_reducible rfl
    simp only [Act.put, List.setIfInBounds_toArray, List.set_cons_zero, List.set_cons_succ]
  refine wpMix_nil ?_
  go_wp2_with fail
  go_ret2
  exact ⟨rfl, HB.out.drew⟩

theorem cell_alloc {w : World} {a : Addr} {u : Value} {o : Obj} (h : w.cell? a = some u) : (w.alloc o).cell? a = some u := by
  rw [((Below.refl w.heap.size w).alloc (Nat.le_refl _) o).cell (World.block_lt_of_cell? w _ h)]; exact h
/-- the box of an argument, and a dictionary, in a world of Add -/
def AddS (w : World) (x : VV) (K : Int) (p : Nat) (W : World) : Prop :=
  W.cell? ⟨w.heap.size, 0, none⟩ = some (.int .i64 x.k) ∧ W.cell? ⟨w.heap.size, 1, none⟩ = some (.int .i64 x.n) ∧ W.cell? ⟨w.heap.size, 2, none⟩ = some (.string x.s) ∧ W.cell? ⟨p, 0, none⟩ = some (.int .i64 K)
theorem good_size {x : VV} (h : x.good = true) : x.s.size ≤ 64 := by
  rcases good_cases h with rfl | ⟨_, e⟩ | ⟨_, e⟩ | ⟨_, _, e⟩ | ⟨_, e⟩
  · show (0 : Nat) ≤ _; omega
  · rw [e]; show (0 : Nat) ≤ _; omega
  · rw [e]; show (0 : Nat) ≤ _; omega
  · exact e
  · rw [e]; show (0 : Nat) ≤ _; omega
/-- behind the test of fitness -/
theorem add_state (h : DkAt T i w p K b v L) (x : VV) {W : World} (hb : Below (w.heap.size + 1) (w.alloc (.cells #[.int .i64 x.k, .int .i64 x.n, .string x.s] 29)) W) :
    AddS w x K p W ∧ DkAt T i W p K b v L ∧ Below w.heap.size w W ∧ W.heap[w.heap.size]? = some (.cells #[.int .i64 x.k, .int .i64 x.n, .string x.s] 29 (0, 0)) ∧ w.heap.size < W.heap.size := by
  have hz : (w.alloc (.cells #[.int .i64 x.k, .int .i64 x.n, .string x.s] 29)).heap.size = w.heap.size + 1 := by simp
  have hB := ((Below.refl w.heap.size w).alloc (Nat.le_refl _) (.cells #[.int .i64 x.k, .int .i64 x.n, .string x.s] 29)).trans (hb.mono (by omega))
  have hD := h.below hB
  have hx : W.heap[w.heap.size]? = some (.cells #[.int .i64 x.k, .int .i64 x.n, .string x.s] 29 (0, 0)) := (hb.block w.heap.size (by omega)).trans (heap_alloc_new w _)
  exact ⟨⟨by rw [cell_of_row _ _ _ _ _ _ hx]; rfl, by rw [cell_of_row _ _ _ _ _ _ hx]; rfl, by rw [cell_of_row _ _ _ _ _ _ hx]; rfl, hD.cells.1⟩, hD, hB, hx, lt_of_heap hx⟩
theorem add_next {w w1 w2 : World} {o : Obj} (hb : Below (w.heap.size + 1) (w.alloc o) w1) (hk : Below w1.heap.size w1 w2) : Below (w.heap.size + 1) (w.alloc o) w2 := by
  have hz : (w.alloc o).heap.size = w.heap.size + 1 := by simp
  have := hb.size
  exact hb.trans (hk.mono (by omega))
/-- the box behind the clone of its text -/
theorem add_stored (h : DkAt T i w p K b v L) (x : VV) {W : World} (hb : Below (w.heap.size + 1) (w.alloc (.cells #[.int .i64 x.k, .int .i64 x.n, .string x.s] 29)) W) :
    DkAt T i (W.setCell ⟨w.heap.size, 2, none⟩ (.string x.s)) p K b v L ∧ Below w.heap.size w (W.setCell ⟨w.heap.size, 2, none⟩ (.string x.s)) ∧ (W.setCell ⟨w.heap.size, 2, none⟩ (.string x.s)).heap[w.heap.size]? = some (.cells #[.int .i64 x.k, .int .i64 x.n, .string x.s] 29 (0, 0)) ∧ W.frozen? ⟨w.heap.size, 2, none⟩ = false := by
  obtain ⟨_, _, hB, hx, _⟩ := add_state h x hb
  have hB2 := hB.setCell (p := ⟨w.heap.size, 2, none⟩) (Nat.le_refl _) (.string x.s)
  exact ⟨h.below hB2, hB2, by rw [heap_set hx]; rfl, free_of_row hx 2⟩
/-- the new value in the map and behind the row -/
theorem add_last (h : DkAt T i w p K b v L) {x : VV} (hx : x.ty) (hn : posV L x = none) (hl : L.length < 512) {X : World} (hX : DkAt T i X p K b v L) (hB : Below w.heap.size w X) (hbx : X.heap[w.heap.size]? = some (.cells #[.int .i64 x.k, .int .i64 x.n, .string x.s] 29 (0, 0))) :
    ∃ Y, (Instr.mapUpdate 48 (.map (some b)) x.val (.int .i64 (L.length : Int))).run Try.prog X.drew = .ok () Y ∧ Y.cell? ⟨p, 2, none⟩ = some v ∧ Y.heap[w.heap.size]? = some (.cells #[.int .i64 x.k, .int .i64 x.n, .string x.s] 29 (0, 0)) ∧
      ∃ g c Z, (∀ ty, (Builtin.append_ #[22, 22] ty #[v, .slice (some ⟨Y.heap.size, 0, none⟩) 1 1]).run Try.prog (Y.drew.alloc (.cells #[.int .i64 x.k, .int .i64 x.n, .string x.s] 29)) = .ok (.slice (some ⟨g, 0, none⟩) (L.length + 1) c) Z) ∧
        Z.frozen? ⟨p, 2, none⟩ = false ∧ Z.cell? ⟨p, 2, none⟩ = some v ∧ Z.heap[w.heap.size]? = some (.cells #[.int .i64 x.k, .int .i64 x.n, .string x.s] 29 (0, 0)) ∧ Goes T i w (Dt p K (L ++ [x])) (Z.setCell ⟨p, 2, none⟩ (.slice (some ⟨g, 0, none⟩) (L.length + 1) c)) := by
  obtain ⟨Y, hrun, hM, hT⟩ := (hX.map.of_block (w' := X.drew) rfl).store hx hn (by omega)
  have hne := hX.ne
  have hgY := hT.grown
  have hsX := hB.size
  have hpX := lt_of_heap hX.head
  have hbw : b < w.heap.size := h.map.lt
  have hpw : p < w.heap.size := lt_of_heap h.head
  have hY : ∀ k, k < X.heap.size → k ≠ b → Y.heap[k]? = X.heap[k]? := fun k hk hkb => hgY.block k hk (fun e => hkb (Option.some.inj e))
  have hpY : Y.heap[p]? = some (.cells #[.int .i64 K, .map (some b), v] 50 (0, 0)) := (hY p hpX hne.1).trans hX.head
  have hrY : RowV 0 v L Y := hX.row.of_block fun g hg => hY g (hX.row.lt g hg) (hne.2 g hg).2
  obtain ⟨v', Z, hr, hrow, hgr, hwh⟩ := push_value (w := Y.drew) (hrY.of_block (w' := Y.drew) (fun _ _ => rfl)) (Nat.zero_le _) x (by omega)
  have hYs : X.heap.size ≤ Y.heap.size := hgY.size
  have hpZ : Z.heap[p]? = some (.cells #[.int .i64 K, .map (some b), v] 50 (0, 0)) := (hgr.block p (Nat.lt_of_lt_of_le hpX hYs) (fun e => (hne.2 p e.symm).1 rfl)).trans hpY
  rcases hrow.form with ⟨_, e⟩ | ⟨g, c, e, hgc, hcm, _, hgZ⟩
  · simp at e
  rw [List.length_append] at e
  subst e
  have hgT : g < w.heap.size → T g = some i := fun hg => by
    rcases hwh with e | e
    · exact h.tr g e.symm
    · have e' : g = Y.heap.size + 1 := by simpa [Value.ownBlock] using e
      omega
  have hgp : g ≠ p := fun e => by
    rcases hwh with e' | e'
    · exact (hne.2 g e'.symm).1 e
    · have e' : g = Y.heap.size + 1 := by simpa [Value.ownBlock] using e'
      omega
  have hgb : g ≠ b := fun e => by
    rcases hwh with e' | e'
    · exact (hne.2 g e'.symm).2 e
    · have e' : g = Y.heap.size + 1 := by simpa [Value.ownBlock] using e'
      omega
  refine ⟨Y, hrun, by rw [cell_of_row _ _ _ _ _ _ hpY]; rfl, (hY _ (lt_of_heap hbx) (by omega)).trans hbx, g, c, Z, hr, free_of_row hpZ 2, by rw [cell_of_row _ _ _ _ _ _ hpZ]; rfl, ?_, ?_⟩
  · exact (hgr.block _ (Nat.lt_of_lt_of_le (lt_of_heap hbx) hYs) (fun e => by have := h.row.lt _ e.symm; omega)).trans ((hY _ (lt_of_heap hbx) (by omega)).trans hbx)
  have E1 : Else (fun k => T k = some i) w X := Else.of_below hB
  have E2 : Else (fun k => T k = some i) w Y := (E1.drew).trans (Else.of_grown hgY) (fun x hx => .inl (by
    have : b = x := Option.some.inj hx
    rw [← this]; exact h.tb))
  have E3 : Else (fun k => T k = some i) w Z := (E2.drew).trans (Else.of_grown hgr) (fun x hx => .inl (h.tr x hx))
  refine ⟨T.one w.heap.size (some i), T.one_next w _, E3.setCell (.inl h.tp) _, b, _, {
    head := by rw [heap_set hpZ]; rfl
    tp := by unfold Tags.one; rw [if_pos hpw]; exact h.tp
    map := hM.of_block ?_
    tb := by unfold Tags.one; rw [if_pos hbw]; exact h.tb
    row := (show RowV 0 _ (L ++ [x]) Z from by rw [RowV, List.length_append]; rw [RowV, List.length_append] at hrow; exact hrow).of_block fun g' hg' => Below.heap_setCell _ _ _ _ (by
      have e : g = g' := by simpa [Value.ownBlock] using hg'
      subst e
      exact hgp)
    tr := fun g' hg' => by
      have e : g = g' := by simpa [Value.ownBlock] using hg'
      subst e
      unfold Tags.one
      split
      · rename_i hlt; exact hgT hlt
      · rfl
    k1 := h.k1
    k4 := h.k4
    len := by rw [List.length_append]; simp; omega
    ty := fun y hy => by
      rcases List.mem_append.1 hy with hy | hy
      · exact h.ty y hy
      · simp at hy; subst hy; exact hx }⟩
  rw [Below.heap_setCell _ _ _ _ (fun e => hne.1 e.symm)]
  exact hgr.block b (Nat.lt_of_lt_of_le hX.map.lt hYs) (fun e => (hne.2 b e.symm).2 rfl)
set_option maxHeartbeats 3200000 in
theorem dadd_val (h : DkAt T i w p K b v L) {x : VV} (hx : x.ty) (hk : x.k ≠ 0) : Calls Try.prog 15 #[.pointer (some ⟨p, 0, none⟩), x.val] w fun e w' =>
    e = .returned (.tuple #[.int .i64 (addI K L x), .int .i64 (addE K L x)]) ∧ Hid (Goes T i w (Dt p K (addL K L x)) w') := by
  have hb0 : Below (w.heap.size + 1) (w.alloc (.cells #[.int .i64 x.k, .int .i64 x.n, .string x.s] 29)) (w.alloc (.cells #[.int .i64 x.k, .int .i64 x.n, .string x.s] 29)) := Below.refl _ _
  obtain ⟨s0, h0, hB0, _⟩ := add_state h x hb0
  have KM := dmade_at h.k1 h0.cells.1
  have S0 : AddS w x K p (w.alloc (.cells #[.int .i64 x.k, .int .i64 x.n, .string x.s] 29)).drew := s0
  have KF := Lib.hid (fun W => fits_any (x := x) hx.inI h.k1 h.k4 W)
  have b0 : (x.k == 0) = false := by rw [beq_eq_false_iff_ne]; exact hk
  have hok : okV K x = fitsV K x := by unfold okV; rw [b0]; rfl
  have HN := Lib.hid (fun W => add_state h x (W := W))
  obtain ⟨va, vc, rfl, _, _⟩ := h.row.form2
  have HB0 := Lib.hid hb0
  have HI := Lib.hid (show x.ty ∧ DkAt T i w p K b (.slice va L.length vc) L from ⟨hx, h⟩)
  have ei : ∀ f, fitsV K x = f → (addI K L x = if f then (posV L x).getD (if 512 ≤ L.length then 0 else L.length) else 0) ∧ addE K L x = (if f then (if (posV L x).isSome then 0 else if 512 ≤ L.length then 7 else 0) else 12) ∧ addL K L x = (if f && !(posV L x).isSome && decide (L.length < 512) then L ++ [x] else L) := fun f e => by
    unfold addI addE addL; rw [hok, e]; exact ⟨rfl, rfl, rfl⟩
  have EI := Lib.hid ei
  obtain ⟨q, hq⟩ : ∃ q, addI K L x = q := ⟨_, rfl⟩
  obtain ⟨r, hr⟩ : ∃ r, addE K L x = r := ⟨_, rfl⟩
  obtain ⟨R, hR⟩ : ∃ R, addL K L x = R := ⟨_, rfl⟩
  have HQ := Lib.hid (And.intro hq hr)
  have HR := Lib.hid hR
  obtain ⟨k, n, s⟩ := x
  obtain ⟨f, hf⟩ : ∃ f, fitsV K ⟨k, n, s⟩ = f := ⟨_, rfl⟩
  have HF := Lib.hid hf
  simp only [AddS] at *
  rw [hq, hr, hR]
  rw [hf] at KF
  clear ei hf hq hr hR s0 h0 hB0 h hx hok hk hb0
  go_enter Try.func15, Try.ntmps15
  go_wp2_with fail
  refine KM.mono ?_
  rintro e w' ⟨rfl, rfl⟩
  clear KM
  go_wp2_with fail
  refine wp_region_mix (fun W => W.cell? ⟨w.heap.size, 0, none⟩ = some (.int .i64 k) ∧ W.cell? ⟨w.heap.size, 1, none⟩ = some (.int .i64 n) ∧ W.cell? ⟨w.heap.size, 2, none⟩ = some (.string s) ∧ W.cell? ⟨p, 0, none⟩ = some (.int .i64 K)) 12 [(true, 0), (true, 1), (true, 2), (true, 3), (true, 4), (true, 5), (true, 6), (true, 7), (true, 8), (false, 9), (true, 10), (true, 11)] (by kernel_rfl) (by decide +kernel) rfl (by decide +kernel) S0 ?_
  iterate 9
    refine wpMix_take (v := ?_) rfl rfl ?_ ?_
    rotate_left
    · (intro W hW; (try dsimp only at hW); go_simp) <;> with_reducible rfl
    simp only [Act.put, List.setIfInBounds_toArray, List.set_cons_zero, List.set_cons_succ]
  refine wpMix_run rfl ?_
  intro K' hK
  go_wp2_with fail
  refine (KF.out _).mono ?_
  rintro e w1 ⟨rfl, hb⟩
  have hb1 := add_next HB0.out ((below_drew1 _).trans hb)
  have HB1 := Lib.hid hb1
  obtain ⟨s1, hD1, hB1, hx1, hG1⟩ := HN.out _ hb1
  obtain ⟨_, c1, c2, _⟩ := hD1.cells
  have HM : ∀ m, (Instr.lookup 48 (.map (some b)) (.agg #[.int .i64 k, .int .i64 n, .string s]) true).run Try.prog (w1.drewN m) = .ok (.tuple #[.int .i64 (((posV L ⟨k, n, s⟩).getD 0 : Nat) : Int), .bool (posV L ⟨k, n, s⟩).isSome]) (w1.drewN m) := fun m => (hD1.map.of_block (w' := w1.drewN m) rfl).look HI.out.1
  have HB := Lib.hid hB1
  clear hb hb1 hB1 hx1 hG1 KF hD1
  go_wp2_with fail
  refine hK.out _ _ (fun _ => s1) ?_
  clear hK K'
  have s2 := s1.1
  have s3 := s1.2.1
  have s4 := s1.2.2.1
  clear s1
  iterate 2
    refine wpMix_take (v := ?_) rfl rfl ?_ ?_
    rotate_left
    · (intro W hW; (try dsimp only at hW); go_simp) <;> with_reducible rfl
    simp only [Act.put, List.setIfInBounds_toArray, List.set_cons_zero, List.set_cons_succ]
  refine wpMix_nil ?_
  cases f with
  | false =>
    obtain ⟨e1, e2, e3⟩ := EI.out false HF.out
    simp only [Bool.false_eq_true, if_false, Bool.false_and] at e1 e2 e3
    obtain rfl : q = 0 := HQ.out.1.symm.trans e1
    obtain rfl : r = 12 := HQ.out.2.symm.trans e2
    have eR : L = R := e3.symm.trans HR.out
    have FIN : Hid (Goes T i w (Dt p K R) w1) := Lib.hid (eR ▸ dt_goes HI.out.2 HB.out)
    clear eR HR HM HB EI HI e1 e2 e3 HQ HN HB1 HF
    go_wp2_with fail
    go_ret2
    exact ⟨rfl, FIN⟩
  | true =>
    obtain ⟨e1, e2, e3⟩ := EI.out true HF.out
    simp only [if_true, Bool.true_and] at e1 e2 e3
    obtain ⟨o, ho⟩ : ∃ o, posV L ⟨k, n, s⟩ = o := ⟨_, rfl⟩
    have HO := Lib.hid ho
    rw [ho] at HM e1 e2 e3
    cases o with
    | some j =>
      simp only [Option.getD_some, Option.isSome_some, if_true, Bool.not_true, Bool.false_and, Bool.false_eq_true, if_false] at HM e1 e2 e3
      obtain rfl : q = j := HQ.out.1.symm.trans e1
      obtain rfl : r = 0 := HQ.out.2.symm.trans e2
      have eR : L = R := e3.symm.trans HR.out
      have FIN : Hid (∀ m, Goes T i w (Dt p K R) (w1.drewN m)) := Lib.hid (fun m => eR ▸ dt_goes HI.out.2 (below_dN HB.out m))
      clear eR HR HB EI HI e1 e2 e3 HQ HN HB1 HF HO ho
      go_wp2_with fail
      go_quiet (fail)
      go_wp2_with fail
      go_ret2
      exact ⟨rfl, Lib.hid (FIN.out _)⟩
    | none =>
      simp only [Option.getD_none, Option.isSome_none, Bool.false_eq_true, if_false, Bool.not_false, Bool.true_and] at HM e1 e2 e3
      by_cases hl : L.length < 512
      · rw [if_neg (by omega)] at e1 e2
        rw [decide_eq_true hl] at e3
        simp only [if_true] at e3
        have hN : L.length = q := e1.symm.trans HQ.out.1
        obtain rfl : r = 0 := HQ.out.2.symm.trans e2
        have eR : L ++ [⟨k, n, s⟩] = R := e3.symm.trans HR.out
        have t0 : decide ((512 : Int) ≤ (L.length : Int)) = false := decide_eq_false (by omega)
        have hsz : s.size ≤ 1000000 := by
          have hf := HF.out
          unfold fitsV at hf
          rw [Bool.and_eq_true] at hf
          have := good_size hf.1
          simp only at this
          omega
        have KC := strClone_any s hsz
        have HL := Lib.hid (And.intro hl ho)
        clear EI e1 e2 e3 HQ HF HO ho hl hsz HR
        have HNN := Lib.hid hN
        rw [hN] at c2 t0
        have ER := Lib.hid eR
        clear hN eR
        go_wp2_with fail
        go_quiet (fail)
        go_wp2_with fail
        refine (KC _).mono ?_
        rintro e w2 ⟨rfl, hb⟩
        have hb2 := add_next HB1.out ((below_drewN w1 _).trans hb)
        obtain ⟨hX, hBX, hbX, hfz⟩ := add_stored HI.out.2 ⟨k, n, s⟩ hb2
        obtain ⟨⟨y0, y1, y2, _⟩, _⟩ := HN.out _ hb2
        obtain ⟨X, hXe⟩ : ∃ X, w2.setCell ⟨w.heap.size, 2, none⟩ (.string s) = X := ⟨_, rfl⟩
        rw [hXe] at hX hBX hbX
        have HX := Lib.hid (add_last HI.out.2 HI.out.1 HL.out.2 HL.out.1 hX hBX hbX)
        have SX : X.drew.cell? ⟨p, 1, none⟩ = some (.map (some b)) ∧ X.drew.cell? ⟨w.heap.size, 0, none⟩ = some (.int .i64 k) ∧ X.drew.cell? ⟨w.heap.size, 1, none⟩ = some (.int .i64 n) ∧ X.drew.cell? ⟨w.heap.size, 2, none⟩ = some (.string s) :=
          ⟨hX.cells.2.1, (cell_of_row X _ _ _ _ _ hbX).trans rfl, (cell_of_row X _ _ _ _ _ hbX).trans rfl, (cell_of_row X _ _ _ _ _ hbX).trans rfl⟩
        clear hX hBX hbX hb hb2 HB1 KC HN HM
        go_wp2_with fail
        (try rw [hXe])
        clear hXe hfz y0 y1 y2
        have hX2 := HX.out
        rw [HNN.out] at hX2
        obtain ⟨Y, hrun, hc2, hbY, g, c, Z, happ, hfZ, hcZ, hbZ, hG⟩ := hX2
        have HU : (Instr.mapUpdate 48 (.map (some b)) (.agg #[.int .i64 k, .int .i64 n, .string s]) (.int .i64 (q : Int))).run Try.prog X.drew = .ok () Y := hrun
        have HA : Hid (∀ ty, (Builtin.append_ #[22, 22] ty #[.slice va q vc, .slice (some ⟨Y.heap.size, 0, none⟩) 1 1]).run Try.prog (Y.drew.alloc (.cells #[.int .i64 k, .int .i64 n, .string s] 29)) = .ok (.slice (some ⟨g, 0, none⟩) (q + 1) c) Z) := Lib.hid happ
        rw [ER.out] at hG
        have FIN := Lib.hid hG
        clear happ hG HX HI HB HL
        refine wp_region_mix (fun W => W.cell? ⟨p, 1, none⟩ = some (.map (some b)) ∧ W.cell? ⟨w.heap.size, 0, none⟩ = some (.int .i64 k) ∧ W.cell? ⟨w.heap.size, 1, none⟩ = some (.int .i64 n) ∧ W.cell? ⟨w.heap.size, 2, none⟩ = some (.string s)) 6 [(true, 0), (true, 1), (true, 2), (true, 3), (true, 4), (true, 5), (false, 6)] (by kernel_rfl) (by decide +kernel) rfl (by decide +kernel) SX ?_
        iterate 6
          refine wpMix_take (v := ?_) rfl rfl ?_ ?_
          rotate_left
          · (intro W hW; (try dsimp only at hW); go_simp) <;> with_reducible rfl
          simp only [Act.put, List.setIfInBounds_toArray, List.set_cons_zero, List.set_cons_succ]
        refine wpMix_run rfl ?_
        intro K' hK
        go_wp2_with fail
        refine hK.out _ _ (fun h => absurd rfl h) ?_
        clear hK K' hrun HU SX
        refine wpMix_nil ?_
        have z0 : Y.cell? ⟨w.heap.size, 0, none⟩ = some (.int .i64 k) := by rw [cell_of_row _ _ _ _ _ _ hbY]; rfl
        have z1 : Y.cell? ⟨w.heap.size, 1, none⟩ = some (.int .i64 n) := by rw [cell_of_row _ _ _ _ _ _ hbY]; rfl
        have z2 : Y.cell? ⟨w.heap.size, 2, none⟩ = some (.string s) := by rw [cell_of_row _ _ _ _ _ _ hbY]; rfl
        go_wp2_with fail
        refine wp_region_mix (fun W => W.cell? ⟨p, 2, none⟩ = some (.slice va q vc) ∧ W.cell? ⟨w.heap.size, 0, none⟩ = some (.int .i64 k) ∧ W.cell? ⟨w.heap.size, 1, none⟩ = some (.int .i64 n) ∧ W.cell? ⟨w.heap.size, 2, none⟩ = some (.string s)) 10 [(true, 0), (true, 1), (true, 2), (true, 3), (true, 4), (true, 5), (false, 6), (false, 7), (true, 8), (true, 9), (false, 10)] (by kernel_rfl) (by decide +kernel) rfl (by decide +kernel) ⟨hc2, z0, z1, z2⟩ ?_
        iterate 6
          refine wpMix_take (v := ?_) rfl rfl ?_ ?_
          rotate_left
          · (intro W hW; (try dsimp only at hW); go_simp) <;> with_reducible rfl
          simp only [Act.put, List.setIfInBounds_toArray, List.set_cons_zero, List.set_cons_succ]
        refine wpMix_run rfl ?_
        intro K' hK
        go_wp2_with fail
        refine hK.out _ _ (fun _ => ⟨cell_alloc hc2, cell_alloc z0, cell_alloc z1, cell_alloc z2⟩) ?_
        clear hK K'
        refine wpMix_run rfl ?_
        intro K' hK
        refine wpList_append_run rfl _ _ 22 rfl rfl rfl (HA.out _) ?_
        go_wp2_with fail
        refine hK.out _ _ (fun _ => ⟨hcZ, by rw [cell_of_row _ _ _ _ _ _ hbZ]; rfl, by rw [cell_of_row _ _ _ _ _ _ hbZ]; rfl, by rw [cell_of_row _ _ _ _ _ _ hbZ]; rfl⟩) ?_
        clear hK K' HA hc2 z0 z1 z2 hbY
        iterate 2
          refine wpMix_take (v := ?_) rfl rfl ?_ ?_
          rotate_left
          · (intro W hW; (try dsimp only at hW); go_simp) <;> with_reducible rfl
          simp only [Act.put, List.setIfInBounds_toArray, List.set_cons_zero, List.set_cons_succ]
        refine wpMix_run rfl ?_
        intro K' hK
        go_wp2_with fail
        refine hK.out _ _ (fun h => absurd rfl h) ?_
        clear hK K'
        refine wpMix_nil ?_
        go_wp2_with fail
        go_ret2
        exact ⟨rfl, FIN⟩
      · have hl' : 512 ≤ L.length := by omega
        rw [if_pos hl'] at e1 e2
        rw [decide_eq_false hl] at e3
        simp only [Bool.false_eq_true, if_false] at e3
        obtain rfl : q = 0 := HQ.out.1.symm.trans e1
        obtain rfl : r = 7 := HQ.out.2.symm.trans e2
        have eR : L = R := e3.symm.trans HR.out
        have FIN : Hid (∀ m, Goes T i w (Dt p K R) (w1.drewN m)) := Lib.hid (fun m => eR ▸ dt_goes HI.out.2 (below_dN HB.out m))
        have t0 : decide ((512 : Int) ≤ (L.length : Int)) = true := decide_eq_true (by omega)
        clear eR HR HB EI HI e1 e2 e3 HQ HN HB1 HF HO ho hl hl'
        generalize L.length = N at *
        go_wp2_with fail
        go_quiet (fail)
        go_wp2_with fail
        go_ret2
        exact ⟨rfl, Lib.hid (FIN.out _)⟩
end
end Go.Proofs.Ytdbaeghhlhkobaa
