/- Contract of digest's add: so many more at a place. Conditions: nothing wraps. -/
import Derived.Test.YtahaoodklfmddaaDigSk
set_option maxRecDepth 100000
namespace Go.Proofs.Ytahaoodklfmddaa
open Go.RowKit Go.Maps Go.Sort

theorem kV_form (id : Nat) : ∃ a u : Int, kV id = .agg #[.int .i64 a, .int .u64 u] := ⟨_, _, rfl⟩
theorem lt_of_cell {w : World} {a : Addr} {v : Value} (h : w.cell? a = some v) : a.block < w.heap.size := World.block_lt_of_cell? w _ h

set_option maxHeartbeats 4000000 in
theorem add_at {T : Tags} {i : Nat} {w : World} {p k b : Nat} {n : Int} {L : DL} (h : DkAt T i w p k n b L) {id : Nat} {c : Int} (hid : KIn id) (hc : InI (dcnt L id + c)) (hn : InI (n + c)) (hl : L.length < maxLen) :
    Calls Try.prog 24 #[.pointer (some ⟨p, 0, none⟩), kV id, .int .i64 c] w fun e w' => e = .returned (.tuple #[]) ∧ Hid (Goes T i w (Dl p k (n + c) (putD id (dcnt L id + c) L)) w') := by
  obtain ⟨a, u, e⟩ := kV_form id
  obtain ⟨G, hG⟩ : ∃ G, w.heap.size = G := ⟨_, rfl⟩
  obtain ⟨W, hW⟩ : ∃ W, w.alloc (.cells #[.int .i64 a, .int .u64 u] 67) = W := ⟨_, rfl⟩
  have hbA : Below w.heap.size w W := by rw [← hW]; exact (Below.refl _ w).alloc (Nat.le_refl _) _
  obtain ⟨_, _, c2, _⟩ := h.cells
  have d2 : W.cell? ⟨p, 2, none⟩ = some (.map (some b)) := by rw [hbA.cell (lt_of_cell c2)]; exact c2
  have d0 : W.cell? ⟨G, 0, none⟩ = some (.int .i64 a) := by rw [← hW, ← hG, cell_of_row _ _ _ _ _ _ (heap_alloc_new w _)]; rfl
  have d1 : W.cell? ⟨G, 1, none⟩ = some (.int .u64 u) := by rw [← hW, ← hG, cell_of_row _ _ _ _ _ _ (heap_alloc_new w _)]; rfl
  have hM : PAt W.drew b L := h.map.of_block (hbA.block b h.map.lt)
  obtain ⟨st, w1, L1, e1, m1, e2, t1, e3⟩ := hM.entry hid hl
  obtain ⟨w2, e4, m2, t2⟩ := e3 w1 (dcnt L id + c) hc rfl
  have lk0 := hM.lookup hid
  have lk1 := m1.lookup hid
  rw [e2] at lk1
  rw [e] at lk0 lk1 e1
  simp only [goInt] at e1 e4
  rw [e]
  have hpb : p ≠ b := h.ne
  have hp := lt_of_heap h.head
  have hb := h.map.lt
  have g1 := t1.grown
  have g2 := t2.grown
  have b1 : ∀ r j, r ≠ b → r < W.heap.size → w1.cell? ⟨r, j, none⟩ = W.cell? ⟨r, j, none⟩ := fun r j hr hlt =>
    World.cell?_of_block (w := W) (g1.block r hlt (by simp [hr]))
  have k2 : w1.cell? ⟨p, 2, none⟩ = some (.map (some b)) := by rw [b1 p 2 hpb (lt_of_cell d2)]; exact d2
  have k0 : w1.cell? ⟨G, 0, none⟩ = some (.int .i64 a) := by rw [b1 G 0 (by omega) (lt_of_cell d0)]; exact d0
  have k1 : w1.cell? ⟨G, 1, none⟩ = some (.int .u64 u) := by rw [b1 G 1 (by omega) (lt_of_cell d1)]; exact d1
  have head1 : w1.heap[p]? = w.heap[p]? := by
    rw [g1.block p (lt_of_cell d2) (by simp [hpb])]
    exact hbA.block p hp
  have head2 : w2.heap[p]? = some (.cells #[.int .i64 k, .int .i64 n, .map (some b)] 62 (0, 0)) := by
    rw [g2.block p (lt_of_cell k2) (by simp [hpb]), head1]
    exact h.head
  have FIN : Hid (Goes T i w (Dl p k (n + c) (putD id (dcnt L id + c) L)) (w2.setCell ⟨p, 1, none⟩ (.int .i64 (n + c)))) := by
    have el : Else (fun x => T x = some i) w w2 :=
      (((Else.of_below (O := fun x => T x = some i) hbA).drew).trans (Else.of_grown g1) (fun x hx => .inl (by cases hx; exact h.tb))).trans (Else.of_grown g2) (fun x hx => .inl (by cases hx; exact h.tb))
    exact ⟨T, fun _ _ => rfl, el.setCell (.inl h.tp) _, b, heap_set head2 _, h.tp, m2.of_block (Below.heap_setCell _ _ _ _ (fun e => hpb e.symm)), h.tb⟩
  have wc : IntKind.i64.wrap (dcnt L id + c) = dcnt L id + c := by rw [IntKind.wrap_i64]; unfold InI at hc; omega
  have wn : IntKind.i64.wrap (n + c) = n + c := by rw [IntKind.wrap_i64]; unfold InI at hn; omega
  have q1 : w2.cell? ⟨p, 1, none⟩ = some (.int .i64 n) := by rw [cell_of_row _ _ _ _ _ _ head2]; rfl
  have q2 : w2.frozen? ⟨p, 1, none⟩ = false := free_of_row head2 _
  clear h hM m1 m2 t1 t2 g1 g2 b1 head1 head2 e3 hid hc hn hl hp hb e c2 hbA e2
  go_enter Try.func24, Try.ntmps24
  go_wp2_with fail
  clear hW
  refine wp_region_mix (fun V => V.cell? ⟨p, 2, none⟩ = some (.map (some b)) ∧ V.cell? ⟨G, 0, none⟩ = some (.int .i64 a) ∧ V.cell? ⟨G, 1, none⟩ = some (.int .u64 u) ∧ Sem.run Try.prog (Instr.lookup 60 (.map (some b)) (.agg #[.int .i64 a, .int .u64 u]) false) V = .ok (.int .i64 (dcnt L id)) V) 10 [(true, 0), (true, 1), (true, 2), (true, 3), (true, 4), (true, 5), (true, 6), (true, 7), (false, 8), (true, 9), (false, 10)] (by kernel_rfl) (by decide +kernel) rfl (by decide +kernel) ⟨d2, d0, d1, lk0⟩ ?_
  iterate 8
    refine wpMix_take (v := ?_) rfl rfl ?_ ?_
    rotate_left
    · (intro W hW; (try dsimp only at hW); go_simp) <;> with_reducible rfl
    simp only [Act.put, List.setIfInBounds_toArray, List.set_cons_zero, List.set_cons_succ]
  refine wpMix_run rfl ?_
  intro K hK
  go_wp2_with fail
  refine hK.out _ _ (fun _ => ⟨k2, k0, k1, lk1⟩) ?_
  clear hK K
  refine wpMix_take (v := ?_) rfl rfl ?_ ?_
  rotate_left
  · (intro W hW; (try dsimp only at hW); go_simp) <;> with_reducible rfl
  simp only [Act.put, List.setIfInBounds_toArray, List.set_cons_zero, List.set_cons_succ]
  refine wpMix_run rfl ?_
  intro K hK
  go_wp2_with fail
  refine hK.out _ _ (fun h => absurd rfl h) ?_
  clear hK K
  refine wpMix_nil ?_
  clear d0 d1 d2 k0 k1 k2 lk0 lk1 e1 e4 wc
  go_wp2_with fail
  go_end0
  exact ⟨rfl, FIN⟩
end Go.Proofs.Ytahaoodklfmddaa
