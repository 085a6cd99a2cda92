/- The texts DigAdd DigFew DigPlaces DigBits DigG DigRankC DigFewSort DigNodes DigRank DigSum DigLiftP DigLift, one behind the other; each one's own comment says what it holds. -/
import Derived.Test.YtlhpbfjelgmkeaaGreatCellCopiesRowGE
import Derived.Laws.Rows
import Derived.Test.YtlhpbfjelgmkeaaGreatBits
import Derived.Test.YtlhpbfjelgmkeaaGreatShelf
import Derived.Shelf.SlSortCmp.WholeK
import Derived.Outline
/- Contract of digest's add: so many more at a place. Conditions: nothing wraps. -/
set_option maxRecDepth 100000
namespace Go.Proofs.YtlhpbfjelgmkeaaGreat.Dig
open Go.RowKit Go.Maps Go.Sort

theorem kV_form (id : Nat) : ∃ a u : Int, kV id = .agg #[.int .i64 a, .int .u64 u] := ⟨_, _, rfl⟩
theorem lt_of_cell {w : World} {a : Addr} {v : Value} (h : w.cell? a = some v) : a.block < w.heap.size := World.block_lt_of_cell? w _ h

set_option maxHeartbeats 4000000 in
theorem add_at {T : Tags} {i : Nat} {w : World} {p k b : Nat} {n : Int} {L : DL} (h : DkAt T i w p k n b L) {id : Nat} {c : Int} (hid : KIn id) (hc : InI (dcnt L id + c)) (hn : InI (n + c)) (hl : L.length < maxLen) :
    Calls Tryz.prog 230 #[.pointer (some ⟨p, 0, none⟩), kV id, .int .i64 c] w fun e w' => e = .returned (.tuple #[]) ∧ Hid (Goes T i w (Dl p k (n + c) (putD id (dcnt L id + c) L)) w') := by
  obtain ⟨a, u, e⟩ := kV_form id
  obtain ⟨G, hG⟩ : ∃ G, w.heap.size = G := ⟨_, rfl⟩
  obtain ⟨W, hW⟩ : ∃ W, w.alloc (.cells #[.int .i64 a, .int .u64 u] 310) = W := ⟨_, rfl⟩
  have hbA : Below w.heap.size w W := by rw [← hW]; exact (Below.refl _ w).alloc (Nat.le_refl _) _
  obtain ⟨_, _, c2, _⟩ := h.cells
  have d2 : W.cell? ⟨p, 2, none⟩ = some (.map (some b)) := by rw [hbA.cell (lt_of_cell c2)]; exact c2
  have d0 : W.cell? ⟨G, 0, none⟩ = some (.int .i64 a) := by rw [← hW, ← hG, cell_of_row _ _ _ _ _ _ (heap_alloc_new w _)]; rfl
  have d1 : W.cell? ⟨G, 1, none⟩ = some (.int .u64 u) := by rw [← hW, ← hG, cell_of_row _ _ _ _ _ _ (heap_alloc_new w _)]; rfl
  have hM : PAt W.drew b L := h.map.of_block (hbA.block b h.map.lt)
  obtain ⟨st, w1, L1, e1, m1, e2, t1, e3⟩ := hM.entry hid hl
  obtain ⟨w2, e4, m2, t2⟩ := e3 w1 (dcnt L id + c) hc rfl
  have lk0 := hM.lookup hid
  have lk1 := m1.lookup hid
  rw [e2] at lk1
  rw [e] at lk0 lk1 e1
  simp only [goInt] at e1 e4
  rw [e]
  have hpb : p ≠ b := h.ne
  have hp := lt_of_heap h.head
  have hb := h.map.lt
  have g1 := t1.grown
  have g2 := t2.grown
  have b1 : ∀ r j, r ≠ b → r < W.heap.size → w1.cell? ⟨r, j, none⟩ = W.cell? ⟨r, j, none⟩ := fun r j hr hlt =>
    World.cell?_of_block (w := W) (g1.block r hlt (by simp [hr]))
  have k2 : w1.cell? ⟨p, 2, none⟩ = some (.map (some b)) := by rw [b1 p 2 hpb (lt_of_cell d2)]; exact d2
  have k0 : w1.cell? ⟨G, 0, none⟩ = some (.int .i64 a) := by rw [b1 G 0 (by omega) (lt_of_cell d0)]; exact d0
  have k1 : w1.cell? ⟨G, 1, none⟩ = some (.int .u64 u) := by rw [b1 G 1 (by omega) (lt_of_cell d1)]; exact d1
  have head1 : w1.heap[p]? = w.heap[p]? := by
    rw [g1.block p (lt_of_cell d2) (by simp [hpb])]
    exact hbA.block p hp
  have head2 : w2.heap[p]? = some (.cells #[.int .i64 k, .int .i64 n, .map (some b)] 200 (0, 0)) := by
    rw [g2.block p (lt_of_cell k2) (by simp [hpb]), head1]
    exact h.head
  have FIN : Hid (Goes T i w (Dl p k (n + c) (putD id (dcnt L id + c) L)) (w2.setCell ⟨p, 1, none⟩ (.int .i64 (n + c)))) := by
    have el : Else (fun x => T x = some i) w w2 :=
      (((Else.of_below (O := fun x => T x = some i) hbA).drew).trans (Else.of_grown g1) (fun x hx => .inl (by cases hx; exact h.tb))).trans (Else.of_grown g2) (fun x hx => .inl (by cases hx; exact h.tb))
    exact ⟨T, fun _ _ => rfl, el.setCell (.inl h.tp) _, b, heap_set head2 _, h.tp, m2.of_block (Below.heap_setCell _ _ _ _ (fun e => hpb e.symm)), h.tb⟩
  have wc : IntKind.i64.wrap (dcnt L id + c) = dcnt L id + c := by rw [IntKind.wrap_i64]; unfold InI at hc; omega
  have wn : IntKind.i64.wrap (n + c) = n + c := by rw [IntKind.wrap_i64]; unfold InI at hn; omega
  have q1 : w2.cell? ⟨p, 1, none⟩ = some (.int .i64 n) := by rw [cell_of_row _ _ _ _ _ _ head2]; rfl
  have q2 : w2.frozen? ⟨p, 1, none⟩ = false := free_of_row head2 _
  clear h hM m1 m2 t1 t2 g1 g2 b1 head1 head2 e3 hid hc hn hl hp hb e c2 hbA e2
  go_enter Tryz.func230, Tryz.ntmps230
  go_wp2_with fail
  clear hW
  refine wp_region_mix (fun V => V.cell? ⟨p, 2, none⟩ = some (.map (some b)) ∧ V.cell? ⟨G, 0, none⟩ = some (.int .i64 a) ∧ V.cell? ⟨G, 1, none⟩ = some (.int .u64 u) ∧ Sem.run Tryz.prog (Instr.lookup 198 (.map (some b)) (.agg #[.int .i64 a, .int .u64 u]) false) V = .ok (.int .i64 (dcnt L id)) V) 10 [(true, 0), (true, 1), (true, 2), (true, 3), (true, 4), (true, 5), (true, 6), (true, 7), (false, 8), (true, 9), (false, 10)] (by kernel_rfl) (by decide +kernel) rfl (by decide +kernel) ⟨d2, d0, d1, lk0⟩ ?_
  iterate 8
    refine wpMix_take (v := ?_) rfl rfl ?_ ?_
    rotate_left
    · (intro W hW; (try dsimp only at hW); go_simp) <;> with_reducible rfl
    simp only [Act.put, List.setIfInBounds_toArray, List.set_cons_zero, List.set_cons_succ]
  refine wpMix_run rfl ?_
  intro K hK
  go_wp2_with fail
  refine hK.out _ _ (fun _ => ⟨k2, k0, k1, lk1⟩) ?_
  clear hK K
  refine wpMix_take (v := ?_) rfl rfl ?_ ?_
  rotate_left
  · (intro W hW; (try dsimp only at hW); go_simp) <;> with_reducible rfl
  simp only [Act.put, List.setIfInBounds_toArray, List.set_cons_zero, List.set_cons_succ]
  refine wpMix_run rfl ?_
  intro K hK
  go_wp2_with fail
  refine hK.out _ _ (fun h => absurd rfl h) ?_
  clear hK K
  refine wpMix_nil ?_
  clear d0 d1 d2 k0 k1 k2 lk0 lk1 e1 e4 wc
  go_wp2_with fail
  go_end0
  exact ⟨rfl, FIN⟩
end Go.Proofs.YtlhpbfjelgmkeaaGreat.Dig
/- Contracts of digest's New, room, fit and Insert while there are few nodes. Conditions: few nodes. -/
set_option maxRecDepth 100000
namespace Go.Proofs.YtlhpbfjelgmkeaaGreat.Dig
open Go.RowKit Go.Maps Go.Sort

theorem new_at {w : World} {k : Nat} (h1 : 1 ≤ k) (h2 : k ≤ 64) :
    Calls Tryz.prog 63 #[.int .i64 k] w fun e w' => e = .returned (.pointer (some ⟨w.heap.size + 1, 0, none⟩)) ∧ w' = (w.alloc (.map #[] 0)).alloc (.cells #[.int .i64 k, .int .i64 0, .map (some w.heap.size)] 200) := by
  have z1 : ¬ (k : Int) < 1 := by omega
  have z2 : ¬ (64 : Int) < (k : Int) := by omega
  have hmm := @run_makeMap Tryz.prog
  clear h1 h2
  go_enter Tryz.func63, Tryz.ntmps63
  go_wp2_with fail
  go_ret
  exact ⟨rfl, rfl⟩
theorem room_at {w : World} {p k : Nat} (hk : k ≤ 64) (c0 : w.cell? ⟨p, 0, none⟩ = some (.int .i64 k)) :
    Calls Tryz.prog 240 #[.pointer (some ⟨p, 0, none⟩)] w fun e w' => e = .returned (.int .i64 ((3 * k + 64 : Nat) : Int)) ∧ w = w' := by
  have e1 : IntKind.i64.wrap (3 * (k : Int)) = 3 * (k : Int) := by rw [IntKind.wrap_i64]; omega
  have e2 : IntKind.i64.wrap (3 * (k : Int) + 64) = ((3 * k + 64 : Nat) : Int) := by rw [IntKind.wrap_i64]; omega
  obtain ⟨R, hR⟩ : ∃ R : Int, ((3 * k + 64 : Nat) : Int) = R := ⟨_, rfl⟩
  rw [hR] at e2 ⊢
  clear hk hR
  go_enter Tryz.func240, Tryz.ntmps240
  go_wp2_with fail
  go_ret
  exact ⟨rfl, rfl⟩
theorem fit_few {T : Tags} {i : Nat} {w : World} {p k b : Nat} {n : Int} {L : DL} (h : DkAt T i w p k n b L) (hk : k ≤ 64) (hl : L.length ≤ 3 * k + 64) :
    Calls Tryz.prog 232 #[.pointer (some ⟨p, 0, none⟩)] w fun e w' => e = .returned (.tuple #[]) ∧ w = w' := by
  obtain ⟨c0, _, c2, _⟩ := h.cells
  have K := room_at hk c0
  have hlen := h.map.len
  have t0 : decide ((L.length : Int) ≤ ((3 * k + 64 : Nat) : Int)) = true := decide_eq_true (by omega)
  obtain ⟨R, hR⟩ : ∃ R : Int, ((3 * k + 64 : Nat) : Int) = R := ⟨_, rfl⟩
  rw [hR] at K t0
  have t1 : (L.length : Int) ≤ R := of_decide_eq_true t0
  clear h hk hl hR c0
  go_enter Tryz.func232, Tryz.ntmps232
  go_wp2_with fail
  refine K.mono ?_
  rintro e w' ⟨rfl, rfl⟩
  clear K
  go_wp2_with fail
  refine bodyPost_ret (results_none rfl _ _ _) rfl ?_
  exact ⟨rfl, rfl⟩

/-- a digest at rest: what every call leaves -/
structure DV.Good (V : DV) : Prop where
  k1 : 1 ≤ V.k
  k64 : V.k ≤ 64
  n50 : V.n ≤ 1125899906842624
  pos : ∀ q ∈ V.L, 1 ≤ q.2
  le : ∀ q ∈ V.L, q.2 ≤ V.n
  len : V.L.length ≤ 3 * V.k + 64
/-- a digest in memory -/
def Dk (p : Nat) (V : DV) : Thing := fun T i w => ∃ b, DkAt T i w p V.k V.n b V.L ∧ V.Good
theorem Dk.framed (p : Nat) (V : DV) : Framed (Dk p V) := by
  rintro T T' i w w' ⟨b, h, hG⟩ hT hw
  exact ⟨b, ⟨(hw p (lt_of_heap h.head) (.inr h.tp)).trans h.head, (hT p (lt_of_heap h.head)).trans h.tp, h.map.of_block (hw b h.map.lt (.inr h.tb)), (hT b h.map.lt).trans h.tb⟩, hG⟩
def DV.none_k (k : Nat) : DV := ⟨k, 0, []⟩
theorem dgood_none {k : Nat} (h1 : 1 ≤ k) (h2 : k ≤ 64) : (DV.none_k k).Good := ⟨h1, h2, Nat.zero_le _, (fun q hq => by cases hq), (fun q hq => by cases hq), Nat.zero_le _⟩
theorem new_yes {w : World} {k : Nat} (h1 : 1 ≤ k) (h2 : k ≤ 64) (T : Tags) (i : Nat) :
    Calls Tryz.prog 63 #[.int .i64 k] w fun e w' => ∃ p, e = .returned (.pointer (some ⟨p, 0, none⟩)) ∧ Below w.heap.size w w' ∧ ∃ T', Next T w T' ∧ Dk p (DV.none_k k) T' i w' := by
  refine (new_at h1 h2).mono ?_
  rintro e w' ⟨rfl, rfl⟩
  refine ⟨_, rfl, ((Below.refl _ w).alloc (Nat.le_refl _) _).alloc (by simp) _, T.one w.heap.size (some i), T.one_next w _, w.heap.size, ?_, dgood_none h1 h2⟩
  refine ⟨?_, by unfold Tags.one; rw [if_neg (by omega)], ?_, by unfold Tags.one; rw [if_neg (by omega)]⟩
  · have := heap_alloc_new (w.alloc (.map #[] 0)) (.cells #[.int .i64 k, .int .i64 0, .map (some w.heap.size)] 200)
    rw [World.size_alloc] at this
    exact this
  · exact (PAt.made w).of_block (heap_alloc_old _ _ (by simp))

/-- one more at level 0, with no need to compress -/
def DV.ins0 (V : DV) (x : Nat) : DV := ⟨V.k, V.n + 1, putD x (dcnt V.L x + 1) V.L⟩
set_option maxHeartbeats 1600000 in
theorem ins_few {T : Tags} {i : Nat} {w : World} {p : Nat} {V : DV} (h : Dk p V T i w) (x : Nat) (hx : x < 18446744073709551616) (hn : V.n < 1125899906842624) (hl : V.L.length < 3 * V.k + 64) :
    Calls Tryz.prog 225 #[.pointer (some ⟨p, 0, none⟩), .int .u64 (x : Int)] w fun e w' => e = .returned (.tuple #[]) ∧ Hid (Goes T i w (Dk p (V.ins0 x)) w') := by
  obtain ⟨b, h, hG⟩ := h
  obtain ⟨c0, c1, _, _⟩ := h.cells
  have KM := made_at hG.k1 c0
  have hid : KIn x := by unfold KIn; omega
  have hk64 := hG.k64
  have hcn : 0 ≤ dcnt V.L x ∧ dcnt V.L x ≤ 1125899906842624 := by
    by_cases e : dcnt V.L x = 0
    · omega
    · have h1 := hG.pos _ (mem_of_dcnt e)
      have h2 := hG.le _ (mem_of_dcnt e)
      have h3 := hG.n50
      simp only at h1 h2
      omega
  have hc : InI (dcnt V.L x + 1) := by unfold InI; omega
  have hni : InI ((V.n : Int) + 1) := by unfold InI; omega
  have KA := fun W (hb : DkAt T i W p V.k V.n b V.L) => add_at hb (c := 1) hid hc hni (by unfold maxLen; omega)
  have e : kV x = .agg #[.int .i64 0, .int .u64 (x : Int)] := by
    have d1 : x / 18446744073709551616 = 0 := by omega
    have d2 : x % 18446744073709551616 = x := by omega
    unfold kV plV pk
    rw [d1, d2]
    rfl
  have hG' : (V.ins0 x).Good := by
    refine ⟨hG.k1, hG.k64, hn, fun q hq => ?_, fun q hq => ?_, ?_⟩
    · rcases putD_sub hq with rfl | hq
      · show 1 ≤ dcnt V.L x + 1; omega
      · exact hG.pos q hq
    · show q.2 ≤ ((V.n + 1 : Nat) : Int)
      rcases putD_sub hq with rfl | hq
      · show dcnt V.L x + 1 ≤ _
        by_cases e : dcnt V.L x = 0
        · omega
        · have h2 := hG.le _ (mem_of_dcnt e)
          simp only at h2
          omega
      · have := hG.le q hq; omega
    · have := putD_len V.L x (dcnt V.L x + 1)
      show (putD x (dcnt V.L x + 1) V.L).length ≤ 3 * V.k + 64
      omega
  have K := KA w h
  rw [e] at K
  have KF := Lib.hid fun (T' : Tags) (W : World) (hW : Dl p V.k (V.n + 1) (putD x (dcnt V.L x + 1) V.L) T' i W) => hW.elim fun b' hb' => fit_few hb' hG.k64 hG'.len
  have HG' := Lib.hid hG'
  have t0 : ¬ (V.n : Int) = 1125899906842624 := by omega
  have t1 : ((V.n : Int) == 1125899906842624) = false := by simpa using t0
  clear h hG hid hk64 hcn hc hni KA e hG' c0 hn hl
  go_enter Tryz.func225, Tryz.ntmps225
  go_wp2_with fail
  refine KM.mono ?_
  rintro e w' ⟨rfl, rfl⟩
  clear KM
  go_wp2_with fail
  refine K.mono ?_
  rintro e w1 ⟨rfl, HX⟩
  obtain ⟨T1, n1, e1, h1⟩ := HX.out
  have K1 := KF.out T1 w1 h1
  have FIN : Hid (Goes T i w (Dk p (V.ins0 x)) w1) := by
    obtain ⟨b1, h1⟩ := h1
    exact ⟨T1, n1, e1, b1, by have := h1; exact ⟨by rw [show (((V.ins0 x).n : Nat) : Int) = (V.n : Int) + 1 by show ((V.n + 1 : Nat) : Int) = _; omega]; exact this.head, this.tp, this.map, this.tb⟩, HG'.out⟩
  clear K HX n1 e1 h1 KF
  go_wp2_with fail
  refine K1.mono ?_
  rintro e w' ⟨rfl, rfl⟩
  clear K1
  go_wp2_with fail
  go_end0
  exact ⟨rfl, FIN⟩
end Go.Proofs.YtlhpbfjelgmkeaaGreat.Dig
/- Contracts of the methods of digest's place and Node. Conditions: none. -/
set_option maxRecDepth 100000
namespace Go.Proofs.YtlhpbfjelgmkeaaGreat.Dig
open Go.RowKit Go.Maps Go.Sort

theorem grow_two (w : World) (x y : Obj) : ∃ os', (w.alloc x).alloc y = grow w os' := ⟨_, by rw [alloc_eq_grow, alloc_eq_grow, grow_grow]⟩
theorem place_any (a u c : Int) (w : World) : Calls Tryz.prog 231 #[.agg #[.int .i64 a, .int .u64 u, .int .i64 c]] w fun e w' => e = .returned (.agg #[.int .i64 a, .int .u64 u]) ∧ ∃ os', w' = grow w os' := by
  go_enter Tryz.func231, Tryz.ntmps231
  go_wp2_with fail
  refine bodyPost_ret (results_cell_row rfl _ _ (w.heap.size + 1) 310 _ (0, 0) _ rfl (heap_alloc2_new w _ _) Tryz.underlying310 rfl (by kernel_rfl)) rfl ?_
  exact ⟨rfl, grow_two w _ _⟩
theorem parent_any {a u : Int} (ha : 0 ≤ a ∧ a ≤ 64) (hu : 0 ≤ u ∧ u < 18446744073709551616) (w : World) : Calls Tryz.prog 255 #[.agg #[.int .i64 a, .int .u64 u]] w fun e w' => e = .returned (.agg #[.int .i64 (a + 1), .int .u64 (u / 2)]) ∧ ∃ os', w' = grow w os' := by
  have w1 : IntKind.i64.wrap (a + 1) = a + 1 := by rw [IntKind.wrap_i64]; omega
  have w2 : IntKind.u64.wrap (u / 2) = u / 2 := by rw [IntKind.wrap_u64]; omega
  have td : u.tdiv 2 = u / 2 := Int.tdiv_eq_ediv_of_nonneg hu.1
  clear ha hu
  go_enter Tryz.func255, Tryz.ntmps255
  go_wp2_with fail
  refine bodyPost_ret (results_cell_row rfl _ _ (w.heap.size + 1) 310 _ (0, 0) _ rfl (heap_alloc2_new w _ _) Tryz.underlying310 rfl (by kernel_rfl)) rfl ?_
  exact ⟨rfl, grow_two w _ _⟩
end Go.Proofs.YtlhpbfjelgmkeaaGreat.Dig
/- Contracts of place.sibling and place.greatest. Conditions: a node's place. -/
set_option maxRecDepth 100000
namespace Go.Proofs.YtlhpbfjelgmkeaaGreat.Dig
open Go.RowKit Go.Maps Go.Sort

theorem xor_u64 (a b : Nat) (ha : a < 18446744073709551616) (hb : b < 18446744073709551616) : bits .xor .u64 (a : Int) (b : Int) = ((a ^^^ b : Nat) : Int) := by
  have h1 : (BitVec.ofInt 64 (a : Int)).toNat = a := ofInt_nat64 a ha
  have h2 : (BitVec.ofInt 64 (b : Int)).toNat = b := ofInt_nat64 b hb
  have hx : a ^^^ b < 2 ^ 64 := Nat.xor_lt_two_pow (by omega) (by omega)
  show IntKind.u64.wrap ((BitVec.ofInt 64 (a : Int) ^^^ BitVec.ofInt 64 (b : Int)).toNat : Int) = _
  rw [BitVec.toNat_xor, h1, h2, IntKind.wrap_u64]
  omega
theorem xor_one (u : Nat) : u ^^^ 1 = if u % 2 = 0 then u + 1 else u - 1 := by
  have h1 : (u ^^^ 1) / 2 = u / 2 := by
    have := Nat.xor_div_two (a := u) (b := 1)
    simpa using this
  have h2 : (u ^^^ 1) % 2 = (u + 1) % 2 := by
    have h3 : (u ^^^ 1) % 2 ^ 1 = u % 2 ^ 1 ^^^ 1 % 2 ^ 1 := Nat.xor_mod_two_pow
    rcases (by omega : u % 2 = 0 ∨ u % 2 = 1) with e | e
    · rw [show (2 : Nat) ^ 1 = 2 from rfl, e] at h3
      rw [h3, show (0 ^^^ 1 % 2 : Nat) = 1 from rfl]
      omega
    · rw [show (2 : Nat) ^ 1 = 2 from rfl, e] at h3
      rw [h3, show (1 ^^^ 1 % 2 : Nat) = 0 from rfl]
      omega
  split <;> omega
theorem sibling_any {a : Int} {u : Nat} (hu : u < 18446744073709551616) (w : World) : Calls Tryz.prog 256 #[.agg #[.int .i64 a, .int .u64 (u : Int)]] w fun e w' => e = .returned (.agg #[.int .i64 a, .int .u64 ((u ^^^ 1 : Nat) : Int)]) ∧ ∃ os', w' = grow w os' := by
  have hx : bits .xor .u64 (u : Int) 1 = ((u ^^^ 1 : Nat) : Int) := xor_u64 u 1 hu (by decide)
  generalize ((u ^^^ 1 : Nat) : Int) = v at hx ⊢
  go_enter Tryz.func256, Tryz.ntmps256
  go_wp2_with fail
  refine bodyPost_ret (results_cell_row rfl _ _ (w.heap.size + 1) 310 _ (0, 0) _ rfl (heap_alloc2_new w _ _) Tryz.underlying310 rfl (by kernel_rfl)) rfl ?_
  exact ⟨rfl, grow_two w _ _⟩
theorem great_bits {l u : Nat} (hl : l ≤ 64) (hu : u < 2 ^ (64 - l)) : bits .or .u64 (IntKind.u64.wrap ((u : Int) * 2 ^ l)) (IntKind.u64.wrap (IntKind.u64.wrap (2 ^ l) - 1)) = ((u * 2 ^ l + (2 ^ l - 1) : Nat) : Int) := by
  have c1 : ((u : Int) * 2 ^ l) = ((u * 2 ^ l : Nat) : Int) := by simp
  have c2 : ((2 : Int) ^ l) = ((2 ^ l : Nat) : Int) := by simp
  rw [c1, c2]
  rcases Nat.lt_or_ge l 64 with h | h
  · have p1 : 2 ^ l * 2 ^ (64 - l) = 18446744073709551616 := by rw [← Nat.pow_add, show l + (64 - l) = 64 by omega]
    have p2 : 0 < 2 ^ l := Nat.two_pow_pos l
    have p3 : 2 ^ l < 18446744073709551616 := (Nat.pow_lt_pow_right (a := 2) (by decide) h : 2 ^ l < 2 ^ 64)
    have p4 : u * 2 ^ l < 18446744073709551616 := by
      rw [← p1, Nat.mul_comm]
      exact Nat.mul_lt_mul_of_pos_left hu p2
    have e := Nat.two_pow_add_eq_or_of_lt (i := l) (b := 2 ^ l - 1) (by omega) u
    rw [Nat.mul_comm] at e
    generalize u * 2 ^ l = A at p4 e ⊢
    generalize 2 ^ l = B at p2 p3 e ⊢
    have w1 : IntKind.u64.wrap ((A : Nat) : Int) = ((A : Nat) : Int) := by rw [IntKind.wrap_u64]; omega
    have w2 : IntKind.u64.wrap ((B : Nat) : Int) = ((B : Nat) : Int) := by rw [IntKind.wrap_u64]; omega
    have w3 : IntKind.u64.wrap (((B : Nat) : Int) - 1) = ((B - 1 : Nat) : Int) := by rw [IntKind.wrap_u64]; omega
    rw [w1, w2, w3, or_u64 A (B - 1) p4 (by omega), e]
  · obtain rfl : l = 64 := by omega
    obtain rfl : u = 0 := by simpa using hu
    rfl
end Go.Proofs.YtlhpbfjelgmkeaaGreat.Dig
/- Nodes as cells, any code read as a node: for sorts whose comparison wants nodes. Conditions: none. -/
set_option maxRecDepth 100000
namespace Go.Proofs.YtlhpbfjelgmkeaaGreat.Dig
open Go.RowKit Go.Maps Go.Sort

/-- the code of a node -/
def NodeC (c : Nat) : Prop := c / 18446744073709551616 ≤ 64 ∧ c % 18446744073709551616 < 2 ^ (64 - c / 18446744073709551616)
instance (c : Nat) : Decidable (NodeC c) := by unfold NodeC; infer_instance
/-- a code, or 0 where it is none of a node -/
def asN (c : Nat) : Nat := if NodeC c then c else 0
theorem asN_node (c : Nat) : NodeC (asN c) := by
  unfold asN
  split
  · assumption
  · decide
theorem asN_eq {c : Nat} (h : NodeC c) : asN c = c := if_pos h
def nA (x : Nat × Int) : Int := ((asN x.1 / 18446744073709551616 : Nat) : Int)
def nU (x : Nat × Int) : Int := ((asN x.1 % 18446744073709551616 : Nat) : Int)
/-- a node's cells -/
def encG (x : Nat × Int) : List Value := [.int .i64 (nA x), .int .u64 (nU x), .int .i64 x.2]
theorem encG_form (x : Nat × Int) : encG x = [.int .i64 (nA x), .int .u64 (nU x), .int .i64 x.2] := rfl
theorem encG_len (x : Nat × Int) : (encG x).length = 3 := rfl
theorem encG_one (x : Nat × Int) : ∀ v ∈ encG x, v.oneCell' = true := fun v hv => by
  simp [encG] at hv
  rcases hv with rfl | rfl | rfl <;> rfl
theorem encG_eq {x : Nat × Int} (h : NodeC x.1) : encG x = encN x := by
  unfold encG encN nA nU
  rw [asN_eq h]
/-- the greatest number of a node -/
def gr (c : Nat) : Nat := asN c % 18446744073709551616 * 2 ^ (asN c / 18446744073709551616) + (2 ^ (asN c / 18446744073709551616) - 1)
def cfG (x y : Nat × Int) : Int := Lib.compareInt (gr x.1 : Nat) (gr y.1 : Nat)
end Go.Proofs.YtlhpbfjelgmkeaaGreat.Dig
/- The comparison of nodes by their greatest numbers. Conditions: none. -/
set_option maxRecDepth 100000
namespace Go.Proofs.YtlhpbfjelgmkeaaGreat.Dig
open Go.RowKit Go.Maps Go.Sort

/-- a world with blocks more, and with more drawn -/
def Grew (W Z : World) : Prop := ∃ q os, Z = grow (W.drewN q) os
theorem grow_none (W : World) : W = grow W #[] := by
  unfold grow
  rw [Array.append_empty]
theorem Grew.refl (W : World) : Grew W W := ⟨0, #[], grow_none W⟩
theorem Grew.trans {A B C : World} (h : Grew A B) (k : Grew B C) : Grew A C := by
  obtain ⟨q, os, rfl⟩ := h
  obtain ⟨q', os', rfl⟩ := k
  exact ⟨q + q', os ++ os', by rw [show (grow (A.drewN q) os).drewN q' = grow ((A.drewN q).drewN q') os from rfl, World.drewN_drewN, grow_grow]⟩
theorem Grew.of_grow {A : World} (os : Array Obj) : Grew A (grow A os) := ⟨0, os, rfl⟩
theorem Grew.drew {A B : World} (h : Grew A B) : Grew A B.drew := h.trans ⟨1, #[], grow_none B.drew⟩
theorem Grew.cell {A B : World} (h : Grew A B) {a : Addr} {v : Value} (hc : A.cell? a = some v) : B.cell? a = some v := by
  obtain ⟨q, os, rfl⟩ := h
  rw [cell?_grow _ _ _ (by exact World.block_lt_of_cell? A _ hc)]
  exact hc

end Go.Proofs.YtlhpbfjelgmkeaaGreat.Dig
/- slices.SortStableFunc at fewer than 20 nodes: one insertion sort. Conditions: few. -/
set_option maxRecDepth 100000
namespace Go.Proofs.YtlhpbfjelgmkeaaGreat.Dig
open Go.RowKit Go.Maps Go.Sort Go.Shelf

theorem lt_G (x y : Nat × Int) : ltOf cfG x y = decide (gr x.1 < gr y.1) := by
  unfold ltOf cfG Lib.compareInt
  by_cases h1 : gr x.1 < gr y.1
  · simp [h1]
  · by_cases h2 : gr y.1 < gr x.1 <;> simp [h1, h2]
theorem swo_G : SWO (ltOf cfG) where
  irrefl x := by rw [lt_G]; simp
  trans x y z h1 h2 := by rw [lt_G] at *; simp at *; omega
  ntrans x y z h1 h2 := by rw [lt_G] at *; simp at *; omega

end Go.Proofs.YtlhpbfjelgmkeaaGreat.Dig
/- Contract of digest's Nodes: the nodes by code, in memory of the call's own. Conditions: a digest that was made. -/
set_option maxRecDepth 100000
namespace Go.Proofs.YtlhpbfjelgmkeaaGreat.Dig
open Go.RowKit Go.Maps Go.Sort Go.Shelf

/-- the counters by id, in memory of the call's own -/
def NodesAt (w : World) (L : DL) (e : Ending) (w' : World) : Prop := ∃ g c, e = .returned (.slice (some ⟨g, 0, none⟩) L.length c) ∧ w.heap.size ≤ g ∧ L.length ≤ c ∧ RowN w' g L ∧ Below w.heap.size w w'

set_option maxHeartbeats 4000000 in
theorem nodes_at {w : World} {p m b : Nat} {L : DL} (c0 : w.cell? ⟨p, 0, none⟩ = some (.int .i64 m)) (h1 : 1 ≤ m) (c2 : w.cell? ⟨p, 2, none⟩ = some (.map (some b))) (hM : PAt w b L) (hl : L.length ≤ 100000) :
    Calls Tryz.prog 229 #[.pointer (some ⟨p, 0, none⟩)] w (NodesAt w L) := by
  have KM := made_at h1 c0
  have hlen := hM.len
  have hb := hM.lt
  obtain ⟨i0, hi, hz0, hz1, hz2⟩ := info_parts info_node
  have hmk : ∀ W, (Instr.makeSlice 304 (.int .i64 0) (.int .i64 (L.length : Int))).run Tryz.prog W = .ok (.slice (some ⟨W.heap.size, 0, none⟩) 0 L.length) (W.alloc (.cells (madeCells (Value.agg #[.int .i64 0, .int .u64 0, .int .i64 0]).cells (L.length * 3)) 307)) := fun W => by
    have := run_make (P := Tryz.prog) W 304 307 i0 (.agg #[.int .i64 0, .int .u64 0, .int .i64 0]) Tryz.underlying304 hi hz0 .i64 .i64 0 L.length (by omega) (by omega) (by rw [hz2]; omega) (by omega)
    rw [this, hz1]
    rfl
  have HM := Lib.hid hM
  have HL := Lib.hid hl
  clear hM h1 c0 hi hz0 hz1 hz2 hl
  go_enter Tryz.func229, Tryz.ntmps229
  go_wp2_with fail
  refine KM.mono ?_
  rintro e w' ⟨rfl, rfl⟩
  clear KM
  obtain ⟨cs, hcs⟩ : ∃ cs, madeCells (Value.agg #[.int .i64 0, .int .u64 0, .int .i64 0]).cells (L.length * 3) = cs := ⟨_, rfl⟩
  have HCS := Lib.hid hcs
  simp only [hcs] at hmk
  clear hcs
  have hown : (w.alloc (.cells cs 307)).ownsMap Tryz.prog 310 (plainElem Tryz.prog 3) b L.length (mapP L) := HM.out.own.alloc _
  have c2' : (w.alloc (.cells cs 307)).cell? ⟨p, 2, none⟩ = some (.map (some b)) := by
    rw [((Below.refl _ w).alloc (Nat.le_refl _) _).cell (World.block_lt_of_cell? w _ c2)]; exact c2
  go_wp2_with (first
    | (at_range; refine wpList_range_own _ rfl _ 198 rfl 310 3 KP Tryz.underlying198 (plainElem Tryz.prog 3) b L.length _ rfl hown ?_; intro w1 hrg1 hg1 hs1)
    | fail)
  go_frame
  obtain ⟨r, hr⟩ : ∃ r, (w.alloc (.cells cs 307)).heap.size = r := ⟨_, rfl⟩
  rw [hr] at hrg1 ⊢
  have hr' : r = w.heap.size + 1 := by rw [← hr]; simp
  have B1 : Hid (Below w.heap.size w w1) := ((Below.refl _ w).alloc (Nat.le_refl _) (.cells cs 307)).grown hg1 (by simp) (fun j hj => by cases hj)
  have O1 : w1.ownsRow w.heap.size 307 3 (.slice (some ⟨w.heap.size, 0, none⟩) 0 L.length) ([] : DL).length (flatN []) := by
    refine World.ownsRow.kept ?_ hg1 (.inr (by simp [Value.ownBlock]))
    exact World.ownsRow_made w cs L.length (Nat.le_refl _) (by have := HL.out; unfold maxLen; omega) (by rw [← HCS.out]; simp [madeCells, Value.cells])
  have HG0 := Lib.hid (GathP.start HM.out.allIn)
  have HR := Lib.hid hr'
  have HX := Lib.hid (And.intro hrg1 O1)
  clear hr hr' hg1 hs1 hrg1 O1 hown c2 c2' hlen hmk HCS
  go_loopw [3] (fun v wr => ∃ (left : Lit → Bool) (cn : Nat) (xs : DL) (g c : Nat), v = .slice (some ⟨g, 0, none⟩) xs.length c ∧ Hid (wr.ranges Tryz.prog 310 (plainElem Tryz.prog 3) b r L.length (mapP L) left cn) ∧ Hid (wr.ownsRow w.heap.size 307 3 (.slice (some ⟨g, 0, none⟩) xs.length c) xs.length (flatN xs)) ∧ Hid (Below w.heap.size w wr) ∧ Hid (GathP L xs left))
    (fun _ wr => wr.rangeLeft b r)
  case atStart => exact ⟨_, _, [], _, _, rfl, HX.out.1, HX.out.2, B1, HG0⟩
  case round =>
    clear HX B1 HG0
    obtain ⟨left, cn, xs, g, c, rfl, Hrg, Hown, HB, HG⟩ := hrel
    have hrg := Hrg.out
    go_wp2_with (first
      | (at_next; refine wpList_next_places HM.out.allIn rfl _ rfl b r L.length _ _ rfl hrg ?_ ?_)
      | fail)
    · intro _ hl0
      have K := sort_nodes (c := c) (rowN_of_owns Hown.out) HM.out.asc HG.out.nodup (HG.out.end hl0) (by have := HG.out.len; have := HL.out; omega)
      have hcap : xs.length ≤ c := by
        rcases Hown.out.2 with ⟨e, _⟩ | ⟨g', cap, cur, e, _, _, h, _⟩
        · simp at e
        · simp at e; omega
      have hg := (Hown.out.lt g rfl).1
      have HC := Lib.hid (And.intro hcap hg)
      clear hl0 hrg hcap hg
      go_wp2_with fail
      refine K.mono ?_
      rintro e w3 ⟨rfl, hR, hgr, hlen⟩
      have HE : Hid (NodesAt w L (.returned (.slice (some ⟨g, 0, none⟩) xs.length c)) w3) := by
        refine ⟨g, c, by rw [hlen], HC.out.2, by rw [hlen]; exact HC.out.1, hR, HB.out.grown hgr HB.out.size (fun j hj => by cases hj; exact HC.out.2)⟩
      clear K hR hgr hlen
      go_wp2_with fail
      go_ret
      exact HE.out
    · intro id y w2 cn2 hm hlx hrg2 hlt hg2 hs2 hen
      have G2 := Lib.hid (HG.out.step HM.out.asc HM.out.allIn hm hlx)
      obtain ⟨a, ha⟩ : ∃ a : Int, a = ((id / 18446744073709551616 : Nat) : Int) := ⟨_, rfl⟩
      obtain ⟨u, hu⟩ : ∃ u : Int, u = ((id % 18446744073709551616 : Nat) : Int) := ⟨_, rfl⟩
      have ek : kV id = .agg #[.int .i64 a, .int .u64 u] := by rw [ha, hu]; rfl
      rw [ek] at hen ⊢
      have hne : some r ≠ (Value.slice (some ⟨g, 0, none⟩) xs.length c).ownBlock := row_ne_iter Hown.out hrg
      have hown2 : w2.ownsRow w.heap.size 307 3 (.slice (some ⟨g, 0, none⟩) xs.length c) xs.length (flatN xs) := Hown.out.kept hg2 (.inr (fun e => hne e.symm))
      have B2 : Hid (Below w.heap.size w w2) := HB.out.grown hg2 HB.out.size (fun j hj => by cases hj; rw [HR.out]; omega)
      have hownA := hown2.alloc (.cells #[.int .i64 a, .int .u64 u] 310)
      have BA : Hid (Below w.heap.size w (w2.alloc (.cells #[.int .i64 a, .int .u64 u] 310))) := B2.out.alloc B2.out.size _
      have hrgA := hrg2.alloc (.cells #[.int .i64 a, .int .u64 u] 310)
      have hszA : (w2.alloc (.cells #[.int .i64 a, .int .u64 u] 310)).heap.size = wr.heap.size + 1 := by rw [World.size_alloc, hs2]
      obtain ⟨v', w3, hrun, hown3, hgr3, hv3⟩ := app_node hownA BA.out.size (by simp) id a u y ha hu (by have := HG.out.len; have := HL.out; omega)
      rw [hszA] at hrun
      obtain ⟨g', c', rfl⟩ : ∃ g' c', v' = .slice (some ⟨g', 0, none⟩) (xs ++ [(id, y)]).length c' := by
        rcases hown3.2 with ⟨e, _⟩ | ⟨g', cap, cur, e, _⟩
        · exact absurd e hv3
        · exact ⟨g', cap, e⟩
      have hlow : some b ≠ (Value.slice (some ⟨g, 0, none⟩) xs.length c).ownBlock := row_ne_low hownA hb
      have RG3 := Lib.hid (hrgA.kept hgr3 hlow (row_ne_iter hownA hrgA))
      have B3 : Hid (Below w.heap.size w w3) := BA.out.grown hgr3 BA.out.size (fun j hj => (hownA.lt j hj).1)
      have O3 := Lib.hid hown3
      have HLT := Lib.hid (And.intro hlt (And.intro RG3.out.left_eq Hrg.out.left_eq))
      have HRUN := Lib.hid hrun
      clear hm hlx hrg2 hlt hg2 hne hown2 hownA hrgA hszA hown3 hgr3 hv3 hlow hrg hrun ha hu ek
      go_wp2_with (first
        | (at_builtin; refine wpList_append_run rfl _ _ 304 rfl rfl rfl (HRUN.out _) ?_)
        | fail)
      go_roundw
      case rel => exact ⟨_, cn2, xs ++ [(id, y)], g', c', by simp, RG3, O3, B3, G2⟩
      case measure => rw [HLT.out.2.1, HLT.out.2.2]; exact HLT.out.1
end Go.Proofs.YtlhpbfjelgmkeaaGreat.Dig
/- Contract of digest's Rank at fewer than 20 nodes. Conditions: nodes, few. -/
set_option maxRecDepth 100000
namespace Go.Proofs.YtlhpbfjelgmkeaaGreat.Dig
open Go.RowKit Go.Maps Go.Sort Go.Shelf

/-- the first of these behind which as many have come -/
def rankG : DL → Int → Option Nat
  | [], _ => none
  | p :: t, r => if r - p.2 ≤ 0 then some (gr p.1) else rankG t (r - p.2)
/-- what Rank tells of it -/
def rankV : Option Nat → Value
  | none => .tuple #[.int .u64 0, .bool false]
  | some v => .tuple #[.int .u64 (v : Int), .bool true]
/-- the nodes by their greatest numbers -/
def byG (L : DL) : DL := (insertionSort (ltOf cfG) L.toArray 0 L.length).toList
theorem holds_G {w : World} {g : Nat} {L : DL} (h : RowN w g L) (hN : ∀ p ∈ L, NodeC p.1) : HoldsK encG 3 w g 0 L.toArray := by
  intro j hj
  have h1 := h.1 j (by rw [size_flatK] at hj ⊢; exact hj)
  rw [size_flatK] at hj
  have hj' : j / 3 < L.length := by simp at hj; omega
  have e2 : L.toArray[j / 3]! = L[j / 3] := by rw [getElem!_pos _ _ (by simpa using hj')]; simp
  refine ⟨?_, h1.2⟩
  rw [h1.1, get_flatK _ _ _ _ hj, get_flatK _ _ _ _ hj, e2, encG_eq (hN _ (List.getElem_mem hj'))]
theorem Grew.below {A B : World} (h : Grew A B) : Below A.heap.size A B := by
  obtain ⟨q, os, rfl⟩ := h
  exact ⟨rfl, rfl, rfl, by rw [size_grow]; exact Nat.le_add_right _ _, fun k hk => heap_grow_old _ _ hk⟩
theorem swk_G {w w' : World} {g : Nat} {d d' : Array (Nat × Int)} (h : HoldsK encG 3 w g 0 d) (hg : g < w.heap.size) (hs : SWK encG 3 w g 0 d' w') (hd : d'.size = d.size) : HoldsK encG 3 w' g 0 d' ∧ g < w'.heap.size ∧ w.grownBy w' (some g) := by
  refine ⟨hs.holds hg h hd, hs.lt hg, ?_⟩
  obtain ⟨n, os, rfl⟩ := hs
  refine ⟨rfl, rfl, rfl, by unfold sortWorldK; rw [size_grow, size_putRowK]; exact Nat.le_add_right _ _, fun k hk hne => ?_⟩
  unfold sortWorldK
  rw [heap_grow_old _ _ (by rw [size_putRowK]; exact hk)]
  have : g ≠ k := fun e => hne (by rw [e])
  simp [putRowK, putRow, mapBlock, Sort.ahead, Array.getElem?_modify, this]
theorem byG_perm (L : DL) : PermIn 0 L.length L.toArray (byG L).toArray := by
  have := (insertionSort_holds swo_G L.toArray 0 L.length (Nat.zero_le _) (by simp)).1
  simpa [byG] using this
theorem byG_len (L : DL) : (byG L).length = L.length := by
  have := (byG_perm L).1
  simpa using this

end Go.Proofs.YtlhpbfjelgmkeaaGreat.Dig
/- Plain mathematics of sums over a digest's nodes: numbers inserted one after another with no need to compress. Conditions: none. -/
set_option maxRecDepth 100000
namespace Go.Proofs.YtlhpbfjelgmkeaaGreat.Dig
open Go.RowKit Go.Maps Go.Sort

/-- how many the nodes count whose codes are so -/
def csum (f : Nat → Bool) : DL → Int
  | [] => 0
  | p :: r => (if f p.1 then p.2 else 0) + csum f r
def total (L : DL) : Int := csum (fun _ => true) L
theorem total_cons (p : Nat × Int) (r : DL) : total (p :: r) = p.2 + total r := rfl
theorem csum_append (f : Nat → Bool) : ∀ A B : DL, csum f (A ++ B) = csum f A + csum f B
  | [], B => by simp [csum]
  | p :: r, B => by
    have ih := csum_append f r B
    show (if f p.1 then p.2 else 0) + csum f (r ++ B) = (if f p.1 then p.2 else 0) + csum f r + csum f B
    omega
theorem csum_all {f : Nat → Bool} : ∀ {L : DL}, (∀ q ∈ L, f q.1 = true) → csum f L = total L
  | [], _ => rfl
  | p :: r, h => by
    have ih := csum_all (f := f) (L := r) fun q hq => h q (List.mem_cons_of_mem _ hq)
    show (if f p.1 then p.2 else 0) + csum f r = p.2 + total r
    rw [h p (List.mem_cons_self ..), ih]; rfl
theorem csum_no {f : Nat → Bool} : ∀ {L : DL}, (∀ q ∈ L, f q.1 = false) → csum f L = 0
  | [], _ => rfl
  | p :: r, h => by
    have ih := csum_no (f := f) (L := r) fun q hq => h q (List.mem_cons_of_mem _ hq)
    show (if f p.1 then p.2 else 0) + csum f r = 0
    rw [h p (List.mem_cons_self ..), ih]; rfl
theorem csum_perm (f : Nat → Bool) {A B : DL} (h : A.Perm B) : csum f A = csum f B := by
  induction h with
  | nil => rfl
  | cons x _ ih =>
    show (if f x.1 then x.2 else 0) + _ = (if f x.1 then x.2 else 0) + _
    rw [ih]
  | swap x y l =>
    show (if f y.1 then y.2 else 0) + ((if f x.1 then x.2 else 0) + csum f l) = (if f x.1 then x.2 else 0) + ((if f y.1 then y.2 else 0) + csum f l)
    omega
  | trans _ _ i1 i2 => exact i1.trans i2
theorem csum_putD (f : Nat → Bool) {L : DL} (hA : DAsc L) (x : Nat) (c : Int) : csum f (putD x c L) = csum f L + (if f x then c - dcnt L x else 0) := by
  induction L with
  | nil => simp [putD, csum, dcnt]
  | cons p r ih =>
    have h1 := dasc_head hA
    have ih := ih (dasc_tail hA)
    unfold putD
    by_cases e1 : x < p.1
    · rw [if_pos e1]
      have e : dcnt (p :: r) x = 0 := dcnt_none fun q hq => by
        rcases List.mem_cons.1 hq with rfl | hq
        · omega
        · have := h1 q hq; omega
      rw [e]
      show (if f x then c else 0) + csum f (p :: r) = _
      split <;> omega
    · rw [if_neg e1]
      by_cases e2 : p.1 = x
      · rw [if_pos e2]
        have e : dcnt (p :: r) x = p.2 := by unfold dcnt; rw [if_pos e2]
        rw [e]
        show (if f x then c else 0) + csum f r = (if f p.1 then p.2 else 0) + csum f r + _
        rw [e2]
        split <;> omega
      · rw [if_neg e2]
        have e : dcnt (p :: r) x = dcnt r x := by show (if p.1 = x then _ else _) = _; rw [if_neg e2]
        rw [e]
        show (if f p.1 then p.2 else 0) + csum f (putD x c r) = (if f p.1 then p.2 else 0) + csum f r + _
        rw [ih]
        omega
theorem csum_nonneg (f : Nat → Bool) : ∀ {L : DL}, (∀ q ∈ L, 1 ≤ q.2) → 0 ≤ csum f L
  | [], _ => by simp [csum]
  | p :: r, h => by
    have ih := csum_nonneg f (L := r) fun q hq => h q (List.mem_cons_of_mem _ hq)
    have := h p (List.mem_cons_self ..)
    show 0 ≤ (if f p.1 then p.2 else 0) + csum f r
    split <;> omega

/-- all of these inserted -/
def DV.insAll (V : DV) (xs : List Nat) : DV := xs.foldl DV.ins0 V
theorem insAll_snoc (V : DV) (xs : List Nat) (x : Nat) : V.insAll (xs ++ [x]) = (V.insAll xs).ins0 x := by simp [DV.insAll]
theorem ins_csum (f : Nat → Bool) {V : DV} (hA : DAsc V.L) (x : Nat) : csum f (V.ins0 x).L = csum f V.L + (if f x then 1 else 0) := by
  show csum f (putD x (dcnt V.L x + 1) V.L) = _
  rw [csum_putD f hA]
  split <;> omega
/-- what is known of them -/
structure DV.Of (k : Nat) (xs : List Nat) (V : DV) : Prop where
  k : V.k = k
  n : V.n = xs.length
  asc : DAsc V.L
  len : V.L.length ≤ xs.length
  codes : ∀ q ∈ V.L, q.1 ∈ xs
  sums : ∀ f, csum f V.L = (xs.countP f : Int)
theorem of_none (k : Nat) : DV.Of k [] (DV.none_k k) := ⟨rfl, rfl, List.Pairwise.nil, Nat.le_refl _, (fun q hq => by cases hq), fun f => rfl⟩
theorem DV.Of.ins {k : Nat} {xs : List Nat} {V : DV} (h : DV.Of k xs V) (x : Nat) : DV.Of k (xs ++ [x]) (V.ins0 x) where
  k := h.k
  n := by show V.n + 1 = _; rw [h.n, List.length_append]; rfl
  asc := dasc_putD h.asc _ _
  len := by
    have := putD_len V.L x (dcnt V.L x + 1)
    have := h.len
    show (putD x (dcnt V.L x + 1) V.L).length ≤ _
    rw [List.length_append]; simp; omega
  codes := fun q hq => by
    rcases putD_sub hq with rfl | hq
    · simp
    · exact List.mem_append_left _ (h.codes q hq)
  sums := fun f => by
    rw [ins_csum f h.asc, h.sums, List.countP_append]
    simp [List.countP_cons]
    split <;> simp_all
end Go.Proofs.YtlhpbfjelgmkeaaGreat.Dig
/- Plain mathematics of lifting a digest's nodes: what stays, what grows less. Conditions: as stated. -/
set_option maxRecDepth 100000
namespace Go.Proofs.YtlhpbfjelgmkeaaGreat.Dig
open Go.RowKit Go.Maps Go.Sort

/-- the code of a level and a prefix -/
def cd (l u : Nat) : Nat := l * 18446744073709551616 + u
def upC (c : Nat) : Nat := cd (c / 18446744073709551616 + 1) (c % 18446744073709551616 / 2)
def sibC (c : Nat) : Nat := cd (c / 18446744073709551616) (c % 18446744073709551616 ^^^ 1)
theorem xor_one_lt {u : Nat} (h : u < 18446744073709551616) : u ^^^ 1 < 18446744073709551616 := Nat.xor_lt_two_pow (n := 64) h (by decide)
theorem xor_one_half (u : Nat) : (u ^^^ 1) / 2 = u / 2 := by
  have := Nat.xor_div_two (a := u) (b := 1)
  simpa using this
theorem cd_lev {l u : Nat} (h : u < 18446744073709551616) : cd l u / 18446744073709551616 = l ∧ cd l u % 18446744073709551616 = u := by
  unfold cd
  omega
theorem cd_self (c : Nat) : cd (c / 18446744073709551616) (c % 18446744073709551616) = c := by
  unfold cd
  omega
theorem sib_lev (c : Nat) : sibC c / 18446744073709551616 = c / 18446744073709551616 ∧ sibC c % 18446744073709551616 = c % 18446744073709551616 ^^^ 1 := cd_lev (xor_one_lt (by omega))
theorem up_lev (c : Nat) : upC c / 18446744073709551616 = c / 18446744073709551616 + 1 ∧ upC c % 18446744073709551616 = c % 18446744073709551616 / 2 := cd_lev (by omega)
theorem up_ne (c : Nat) : upC c ≠ c := fun e => by
  have := (up_lev c).1
  rw [e] at this
  omega
theorem up_ne_sib (c : Nat) : upC c ≠ sibC c := fun e => by
  have h1 := (up_lev c).1
  have h2 := (sib_lev c).1
  rw [e] at h1
  omega
theorem sib_ne (c : Nat) : sibC c ≠ c := fun e => by
  have h := (sib_lev c).2
  rw [e] at h
  have h2 : (c % 18446744073709551616) ^^^ (c % 18446744073709551616 ^^^ 1) = 1 := by rw [← Nat.xor_assoc, Nat.xor_self, Nat.zero_xor]
  rw [← h, Nat.xor_self] at h2
  cases h2
theorem up_sib (c : Nat) : upC (sibC c) = upC c := by
  unfold upC
  rw [(sib_lev c).1, (sib_lev c).2, xor_one_half]

/-- what a node and its sibling and parent count -/
def allC (L : DL) (c : Nat) : Int := dcnt L c + dcnt L (sibC c) + dcnt L (upC c)
/-- lifted -/
def liftL (L : DL) (c : Nat) : DL := delD (sibC c) (delD c (putD (upC c) (allC L c) L))

theorem csum_delD (f : Nat → Bool) {L : DL} (hA : DAsc L) (x : Nat) : csum f (delD x L) = csum f L - (if f x then dcnt L x else 0) := by
  induction L with
  | nil => simp [delD, csum, dcnt]
  | cons p r ih =>
    have ih := ih (dasc_tail hA)
    have h1 := dasc_head hA
    unfold delD at ih ⊢
    by_cases e : p.1 = x
    · have e0 : dcnt r x = 0 := dcnt_none fun q hq => by have := h1 q hq; omega
      rw [List.filter_cons_of_neg (by simp [e]), ih, e0]
      have e1 : dcnt (p :: r) x = p.2 := by show (if p.1 = x then p.2 else _) = _; rw [if_pos e]
      rw [e1]
      show _ = (if f p.1 then p.2 else 0) + csum f r - _
      rw [e]
      split <;> omega
    · rw [List.filter_cons_of_pos (by simp [e])]
      show (if f p.1 then p.2 else 0) + csum f _ = (if f p.1 then p.2 else 0) + csum f r - _
      rw [ih]
      have e1 : dcnt (p :: r) x = dcnt r x := by show (if p.1 = x then p.2 else _) = _; rw [if_neg e]
      rw [e1]
      omega
/-- how far there is to the top -/
def wgt (c : Nat) : Int := 65 - ((c / 18446744073709551616 : Nat) : Int)
def meas : DL → Int
  | [] => 0
  | p :: r => wgt p.1 + meas r
theorem meas_delD {L : DL} (hA : DAsc L) (x : Nat) : meas (delD x L) = meas L - (if ∃ q ∈ L, q.1 = x then wgt x else 0) := by
  induction L with
  | nil => simp [delD, meas]
  | cons p r ih =>
    have ih := ih (dasc_tail hA)
    have h1 := dasc_head hA
    unfold delD at ih ⊢
    by_cases e : p.1 = x
    · have e0 : ¬ ∃ q ∈ r, q.1 = x := fun ⟨q, hq, e'⟩ => by have := h1 q hq; omega
      rw [List.filter_cons_of_neg (by simp [e]), ih, if_neg e0, if_pos ⟨p, List.mem_cons_self .., e⟩]
      show _ = wgt p.1 + meas r - wgt x
      rw [e]; omega
    · rw [List.filter_cons_of_pos (by simp [e])]
      show wgt p.1 + meas _ = wgt p.1 + meas r - _
      rw [ih]
      by_cases g : ∃ q ∈ r, q.1 = x
      · rw [if_pos g, if_pos (by obtain ⟨q, hq, e'⟩ := g; exact ⟨q, List.mem_cons_of_mem _ hq, e'⟩)]; omega
      · rw [if_neg g, if_neg (by
          rintro ⟨q, hq, e'⟩
          rcases List.mem_cons.1 hq with rfl | hq
          · exact e e'
          · exact g ⟨q, hq, e'⟩)]
        omega
theorem meas_putD {L : DL} (hA : DAsc L) (x : Nat) (c : Int) : meas (putD x c L) = meas L + (if ∃ q ∈ L, q.1 = x then 0 else wgt x) := by
  induction L with
  | nil => simp [putD, meas]
  | cons p r ih =>
    have ih := ih (dasc_tail hA)
    have h1 := dasc_head hA
    unfold putD
    by_cases e1 : x < p.1
    · rw [if_pos e1, if_neg (by
        rintro ⟨q, hq, e'⟩
        rcases List.mem_cons.1 hq with rfl | hq
        · omega
        · have := h1 q hq; omega)]
      show wgt x + (wgt p.1 + meas r) = wgt p.1 + meas r + wgt x
      omega
    · rw [if_neg e1]
      by_cases e2 : p.1 = x
      · rw [if_pos e2, if_pos ⟨p, List.mem_cons_self .., e2⟩]
        show wgt x + meas r = wgt p.1 + meas r + 0
        rw [e2]; omega
      · rw [if_neg e2]
        show wgt p.1 + meas (putD x c r) = wgt p.1 + meas r + _
        rw [ih]
        by_cases g : ∃ q ∈ r, q.1 = x
        · rw [if_pos g, if_pos (by obtain ⟨q, hq, e'⟩ := g; exact ⟨q, List.mem_cons_of_mem _ hq, e'⟩)]; omega
        · rw [if_neg g, if_neg (by
            rintro ⟨q, hq, e'⟩
            rcases List.mem_cons.1 hq with rfl | hq
            · exact e2 e'
            · exact g ⟨q, hq, e'⟩)]
          omega
theorem mem_delD {L : DL} {x : Nat} {q : Nat × Int} : q ∈ delD x L ↔ q ∈ L ∧ q.1 ≠ x := by
  unfold delD
  rw [List.mem_filter]
  simp
theorem has_putD {L : DL} (x y : Nat) (c : Int) : (∃ q ∈ putD x c L, q.1 = y) ↔ (y = x ∨ ∃ q ∈ L, q.1 = y) := by
  induction L with
  | nil => simp [putD, eq_comm]
  | cons p r ih =>
    unfold putD
    split
    · simp [eq_comm]
    · split
      · rename_i g1 g2
        constructor
        · rintro ⟨q, hq, e⟩
          rcases List.mem_cons.1 hq with rfl | hq
          · exact .inl e.symm
          · exact .inr ⟨q, List.mem_cons_of_mem _ hq, e⟩
        · rintro (e | ⟨q, hq, e⟩)
          · exact ⟨(x, c), List.mem_cons_self .., e.symm⟩
          · rcases List.mem_cons.1 hq with rfl | hq
            · exact ⟨(x, c), List.mem_cons_self .., by show x = y; omega⟩
            · exact ⟨q, List.mem_cons_of_mem _ hq, e⟩
      · constructor
        · rintro ⟨q, hq, e⟩
          rcases List.mem_cons.1 hq with rfl | hq
          · exact .inr ⟨q, List.mem_cons_self .., e⟩
          · rcases ih.1 ⟨q, hq, e⟩ with e' | ⟨q', hq', e'⟩
            · exact .inl e'
            · exact .inr ⟨q', List.mem_cons_of_mem _ hq', e'⟩
        · rintro (e | ⟨q, hq, e⟩)
          · obtain ⟨q', hq', e'⟩ := ih.2 (.inl e)
            exact ⟨q', List.mem_cons_of_mem _ hq', e'⟩
          · rcases List.mem_cons.1 hq with rfl | hq
            · exact ⟨q, List.mem_cons_self .., e⟩
            · obtain ⟨q', hq', e'⟩ := ih.2 (.inr ⟨q, hq, e⟩)
              exact ⟨q', List.mem_cons_of_mem _ hq', e'⟩

/-- what holds of the nodes of a digest of n numbers -/
structure DInv (n : Nat) (L : DL) : Prop where
  asc : DAsc L
  pos : ∀ q ∈ L, 1 ≤ q.2
  sum : total L = n
/-- a code of a node: its level, its prefix -/
def LowC (c : Nat) : Prop := c / 18446744073709551616 ≤ 64 ∧ c % 18446744073709551616 < 2 ^ (64 - c / 18446744073709551616)
theorem dcnt_nonneg {L : DL} (hp : ∀ q ∈ L, 1 ≤ q.2) (x : Nat) : 0 ≤ dcnt L x := by
  by_cases e : dcnt L x = 0
  · omega
  · have := hp _ (mem_of_dcnt e); simp only at this; omega
theorem dcnt_has {L : DL} (hA : DAsc L) (hp : ∀ q ∈ L, 1 ≤ q.2) {x : Nat} (h : ∃ q ∈ L, q.1 = x) : 1 ≤ dcnt L x := by
  obtain ⟨⟨a, b⟩, hq, e⟩ := h
  simp only at e
  subst e
  rw [dcnt_mem hA hq]
  exact hp _ hq
theorem csum_le_total (f : Nat → Bool) : ∀ {L : DL}, (∀ q ∈ L, 1 ≤ q.2) → csum f L ≤ total L
  | [], _ => Int.le_refl _
  | p :: r, h => by
    have ih := csum_le_total f (L := r) fun q hq => h q (List.mem_cons_of_mem _ hq)
    have := h p (List.mem_cons_self ..)
    show (if f p.1 then p.2 else 0) + csum f r ≤ p.2 + total r
    split <;> omega
theorem all_le {n : Nat} {L : DL} (h : DInv n L) (c : Nat) : 0 ≤ allC L c ∧ allC L c ≤ n := by
  have d := fun x => dcnt_nonneg h.pos x
  have h1 : DAsc (delD c L) := dasc_delD h.asc _
  have s1 := csum_delD (fun _ => true) h.asc c
  have s2 := csum_delD (fun _ => true) h1 (sibC c)
  have s3 := csum_delD (fun _ => true) (dasc_delD h1 (sibC c)) (upC c)
  rw [dcnt_delD h.asc, if_neg (sib_ne c)] at s2
  rw [dcnt_delD h1, if_neg (up_ne_sib c), dcnt_delD h.asc, if_neg (up_ne c)] at s3
  have p3 : 0 ≤ csum (fun _ => true) (delD (upC c) (delD (sibC c) (delD c L))) := csum_nonneg _ fun q hq => by
    have := (mem_delD.1 (mem_delD.1 (mem_delD.1 hq).1).1).1
    exact h.pos q this
  have hs := h.sum
  unfold total at hs
  simp only [if_true] at s1 s2 s3
  unfold allC
  have := d c; have := d (sibC c); have := d (upC c)
  omega
theorem lift_has {L : DL} (c y : Nat) : (∃ q ∈ liftL L c, q.1 = y) ↔ ((y = upC c ∨ ∃ q ∈ L, q.1 = y) ∧ y ≠ c ∧ y ≠ sibC c) := by
  unfold liftL
  constructor
  · rintro ⟨q, hq, e⟩
    obtain ⟨h1, h2⟩ := mem_delD.1 hq
    obtain ⟨h3, h4⟩ := mem_delD.1 h1
    subst e
    exact ⟨(has_putD _ _ _).1 ⟨q, h3, rfl⟩, h4, h2⟩
  · rintro ⟨h, h1, h2⟩
    obtain ⟨q, hq, e⟩ := (has_putD (upC c) y (allC L c)).2 h
    exact ⟨q, mem_delD.2 ⟨mem_delD.2 ⟨hq, by rw [e]; exact h1⟩, by rw [e]; exact h2⟩, e⟩
theorem lift_sum (f : Nat → Bool) {L : DL} (hA : DAsc L) (c : Nat) : csum f (liftL L c) = csum f L + (if f (upC c) then allC L c - dcnt L (upC c) else 0) - (if f c then dcnt L c else 0) - (if f (sibC c) then dcnt L (sibC c) else 0) := by
  unfold liftL
  have h1 := dasc_putD hA (upC c) (allC L c)
  have e1 : dcnt (delD c (putD (upC c) (allC L c) L)) (sibC c) = dcnt L (sibC c) := by
    rw [dcnt_delD h1, if_neg (sib_ne c), dcnt_putD hA, if_neg (fun e => up_ne_sib c e.symm)]
  have e2 : dcnt (putD (upC c) (allC L c) L) c = dcnt L c := by rw [dcnt_putD hA, if_neg (fun e => up_ne c e.symm)]
  rw [csum_delD f (dasc_delD h1 c), csum_delD f h1, csum_putD f hA, e1, e2]
theorem lift_inv {n : Nat} {L : DL} (h : DInv n L) {c : Nat} (hc : (∃ q ∈ L, q.1 = c) ∨ ∃ q ∈ L, q.1 = upC c) : DInv n (liftL L c) where
  asc := dasc_delD (dasc_delD (dasc_putD h.asc _ _) _) _
  pos := fun q hq => by
    have h1 := (mem_delD.1 (mem_delD.1 hq).1).1
    rcases putD_sub h1 with rfl | h1
    · show 1 ≤ allC L c
      unfold allC
      have a1 := dcnt_nonneg h.pos c
      have a2 := dcnt_nonneg h.pos (sibC c)
      have a3 := dcnt_nonneg h.pos (upC c)
      rcases hc with hc | hc
      · have := dcnt_has h.asc h.pos hc; omega
      · have := dcnt_has h.asc h.pos hc; omega
    · exact h.pos q h1
  sum := by
    have := lift_sum (fun _ => true) h.asc c
    unfold total
    rw [this]
    have hs := h.sum
    unfold total at hs
    simp only [if_true]
    unfold allC
    omega
theorem lift_codes {L : DL} (h : ∀ q ∈ L, LowC q.1) {c : Nat} (hc : c / 18446744073709551616 ≤ 63) (hl : LowC c) : ∀ q ∈ liftL L c, LowC q.1 := fun q hq => by
  have h1 := (mem_delD.1 (mem_delD.1 hq).1).1
  rcases putD_sub h1 with rfl | h1
  · show LowC (upC c)
    unfold LowC
    rw [(up_lev c).1, (up_lev c).2]
    refine ⟨by omega, ?_⟩
    have e : 64 - c / 18446744073709551616 = (64 - (c / 18446744073709551616 + 1)) + 1 := by omega
    have := hl.2
    rw [e, Nat.pow_succ] at this
    omega
  · exact h q h1
theorem wgt_pos {c : Nat} (h : c / 18446744073709551616 ≤ 64) : 1 ≤ wgt c := by unfold wgt; omega
theorem meas_nonneg : ∀ {L : DL}, (∀ q ∈ L, LowC q.1) → 0 ≤ meas L
  | [], _ => by simp [meas]
  | p :: r, h => by
    have ih := meas_nonneg (L := r) fun q hq => h q (List.mem_cons_of_mem _ hq)
    have := wgt_pos (h p (List.mem_cons_self ..)).1
    show 0 ≤ wgt p.1 + meas r
    omega
theorem meas_del_le {L : DL} (hA : DAsc L) (x : Nat) (hx : x / 18446744073709551616 ≤ 64) : meas (delD x L) ≤ meas L := by
  rw [meas_delD hA]
  have := wgt_pos hx
  split <;> omega
/-- a lift does not raise the measure; a real one lessens it -/
theorem lift_meas {L : DL} (hA : DAsc L) {c : Nat} (hc : c / 18446744073709551616 ≤ 63) :
    ((∃ q ∈ L, q.1 = upC c) → meas (liftL L c) ≤ meas L) ∧ ((∃ q ∈ L, q.1 = c) → meas (liftL L c) < meas L) := by
  have h1 := dasc_putD hA (upC c) (allC L c)
  have m1 := meas_putD hA (upC c) (allC L c)
  have m2 := meas_delD h1 c
  have m3 := meas_del_le (dasc_delD h1 c) (sibC c) (by rw [(sib_lev c).1]; omega)
  have m4 := meas_del_le h1 c (by omega)
  have w1 : wgt (upC c) = wgt c - 1 := by unfold wgt; rw [(up_lev c).1]; omega
  constructor
  · intro h
    rw [if_pos h] at m1
    show meas (delD (sibC c) (delD c _)) ≤ _
    omega
  · intro h
    rw [if_pos ((has_putD _ _ _).2 (.inr h))] at m2
    have : meas (putD (upC c) (allC L c) L) ≤ meas L + wgt c - 1 := by
      rw [m1]
      have := wgt_pos (c := upC c) (by rw [(up_lev c).1]; omega)
      split <;> omega
    show meas (delD (sibC c) (delD c _)) < _
    omega
end Go.Proofs.YtlhpbfjelgmkeaaGreat.Dig
/- Contract of digest's lift: counts given to the parent, where they are few. Conditions: a digest that was made. -/
set_option maxRecDepth 100000
namespace Go.Proofs.YtlhpbfjelgmkeaaGreat.Dig
open Go.RowKit Go.Maps Go.Sort Go.Shelf

theorem kV_at (c : Nat) : kV c = .agg #[.int .i64 ((c / 18446744073709551616 : Nat) : Int), .int .u64 ((c % 18446744073709551616 : Nat) : Int)] := rfl

/-- a deletion from a map as one step of a region that draws, its run being known -/
theorem step_deleteD {P : Program} {ops : Array Oper} {o : Oper} {a : Act} {w w' : World} {K : Act → World → Prop} {Q : Exit → Act → World → Prop} {E : Prop} {mv kv v' : Value}
    (hg : o.guard = none) (m x : Operand) (t k : TypeId) (hop : o.op = Op.call { callee := Callee.builtin Builtin.delete, args := #[m, x], argTypes := #[t, k] }) (hm : a.eval m = mv) (hx : a.eval x = kv)
    (hrun : (Builtin.delete_ #[t, k] o.type #[mv, kv]).run P w = .ok v' w') (hK : K (a.put o.dst v') w') :
    if Region.wanted o (yielded ops a.tmps) = true then Oper.wp P o a w K Q else E := by
  have hw : Region.wanted o (yielded ops a.tmps) = true := by simp [Region.wanted, hg]
  rw [if_pos hw]
  unfold Oper.wp
  simp [execOp, hop, resolve, invoke, builtin, hm, hx, hrun, Result.andThen]
  exact hK

set_option maxHeartbeats 4000000 in
theorem lift_at {T : Tags} {i : Nat} {w : World} {p k b : Nat} {n most : Int} {L : DL} (h : DkAt T i w p k n b L) {c : Nat} (hc : KIn c) (hcl : c / 18446744073709551616 ≤ 63) (h1 : InI (dcnt L c + dcnt L (sibC c))) (h2 : InI (allC L c)) (hl : L.length < maxLen) :
    Calls Tryz.prog 245 #[.pointer (some ⟨p, 0, none⟩), kV c, .int .i64 most] w fun e w' =>
      (most < allC L c ∧ e = .returned (.bool false) ∧ Hid (Goes T i w (Dl p k n L) w')) ∨ (allC L c ≤ most ∧ e = .returned (.bool true) ∧ Hid (Goes T i w (Dl p k n (liftL L c)) w')) := by
  obtain ⟨a, ha⟩ : ∃ a : Int, a = ((c / 18446744073709551616 : Nat) : Int) := ⟨_, rfl⟩
  obtain ⟨u, hu⟩ : ∃ u : Nat, u = c % 18446744073709551616 := ⟨_, rfl⟩
  have hul : u < 18446744073709551616 := by omega
  have ec : kV c = .agg #[.int .i64 a, .int .u64 (u : Int)] := by rw [ha, hu]; rfl
  have es : kV (sibC c) = .agg #[.int .i64 a, .int .u64 ((u ^^^ 1 : Nat) : Int)] := by rw [kV_at, (sib_lev c).1, (sib_lev c).2, ha, hu]
  have eu : kV (upC c) = .agg #[.int .i64 (a + 1), .int .u64 ((u : Int) / 2)] := by
    rw [kV_at, (up_lev c).1, (up_lev c).2, ha, hu]
    simp
  have hcs : KIn (sibC c) := by
    have := (sib_lev c).1
    have h3 := cd_self (sibC c)
    unfold KIn cd at *
    omega
  have hcu : KIn (upC c) := by
    have := (up_lev c).1
    have h3 := cd_self (upC c)
    unfold KIn cd at *
    omega
  obtain ⟨G, hG⟩ : ∃ G, w.heap.size = G := ⟨_, rfl⟩
  obtain ⟨W0, hW0⟩ : ∃ W0, w.alloc (.cells #[.int .i64 a, .int .u64 (u : Int)] 310) = W0 := ⟨_, rfl⟩
  have KPar := parent_any (a := a) (u := (u : Int)) (by omega) (by omega) W0
  have KSib := Lib.hid (fun W => sibling_any (a := a) hul W)
  have hb0 : Below w.heap.size w W0 := by rw [← hW0]; exact (Below.refl _ w).alloc (Nat.le_refl _) _
  have d0 : W0.cell? ⟨G, 0, none⟩ = some (.int .i64 a) := by rw [← hW0, ← hG, cell_of_row _ _ _ _ _ _ (heap_alloc_new w _)]; rfl
  have d1 : W0.cell? ⟨G, 1, none⟩ = some (.int .u64 (u : Int)) := by rw [← hW0, ← hG, cell_of_row _ _ _ _ _ _ (heap_alloc_new w _)]; rfl
  rw [ec]
  have HD := Lib.hid h
  have HE := Lib.hid (And.intro ec (And.intro es eu))
  have HK := Lib.hid (And.intro hc (And.intro hcs hcu))
  have HN := Lib.hid (And.intro h1 (And.intro h2 hl))
  have HB0 := Lib.hid hb0
  clear h h1 h2 hl ha hu hul ec es eu hc hcs hcu hcl hb0
  go_enter Tryz.func245, Tryz.ntmps245
  go_wp2_with fail
  refine KPar.mono ?_
  rintro e w1 ⟨rfl, os1, rfl⟩
  have HGb := Lib.hid (show b < G by have := HD.out.map.lt; omega)
  clear KPar hG hW0
  obtain ⟨G1, hG1⟩ : ∃ G1, (grow W0 os1).heap.size = G1 := ⟨_, rfl⟩
  obtain ⟨W1, hW1⟩ : ∃ W1, (grow W0 os1).alloc (.cells #[.int .i64 (a + 1), .int .u64 ((u : Int) / 2)] 310) = W1 := ⟨_, rfl⟩
  have hb1 : Below W0.heap.size W0 W1 := by rw [← hW1]; exact (Grew.below ⟨0, os1, rfl⟩).alloc (by rw [size_grow]; exact Nat.le_add_right _ _) _
  have e0 : W1.cell? ⟨G, 0, none⟩ = some (.int .i64 a) := by rw [hb1.cell (lt_of_cell d0)]; exact d0
  have e1 : W1.cell? ⟨G, 1, none⟩ = some (.int .u64 (u : Int)) := by rw [hb1.cell (lt_of_cell d1)]; exact d1
  have e2 : W1.cell? ⟨G1, 0, none⟩ = some (.int .i64 (a + 1)) := by rw [← hW1, ← hG1, cell_of_row _ _ _ _ _ _ (heap_alloc_new _ _)]; rfl
  have e3 : W1.cell? ⟨G1, 1, none⟩ = some (.int .u64 ((u : Int) / 2)) := by rw [← hW1, ← hG1, cell_of_row _ _ _ _ _ _ (heap_alloc_new _ _)]; rfl
  have hbw : Below w.heap.size w W1 := HB0.out.trans (hb1.mono HB0.out.size)
  obtain ⟨_, _, c2, _⟩ := HD.out.cells
  have e4 : W1.cell? ⟨p, 2, none⟩ = some (.map (some b)) := by rw [hbw.cell (lt_of_cell c2)]; exact c2
  have HBW := Lib.hid hbw
  have HG1b := Lib.hid (show b < G1 by have := HD.out.map.lt; have := HB0.out.size; rw [← hG1, size_grow]; omega)
  have E0 := Lib.hid e0
  have E1 := Lib.hid e1
  have E4 := Lib.hid e4
  clear d0 d1 c2 hb1 hbw e0 e1 e4 HB0
  have mixed : Tryz.prog.follows .mixedOrders = true := by kernel_rfl
  have hbig : p < W1.heap.size ∧ G < W1.heap.size ∧ G1 < W1.heap.size ∧ b < W1.heap.size := ⟨lt_of_cell E4.out, lt_of_cell E0.out, lt_of_cell e2, by have := HD.out.map.lt; have := HBW.out.size; omega⟩
  have M1 := Lib.hid (HD.out.map.of_block (HBW.out.block b HD.out.map.lt))
  have MG := Lib.hid (fun (n : Nat) (os : Array Obj) => M1.out.of_block (w' := grow (W1.drewN n) os) (heap_grow_old _ _ hbig.2.2.2))
  have f4 : ∀ n os, (grow (W1.drewN n) os).cell? ⟨p, 2, none⟩ = some (.map (some b)) := fun n os => by rw [cell?_grow _ _ _ (by exact hbig.1)]; exact E4.out
  have f0 : ∀ n os, (grow (W1.drewN n) os).cell? ⟨G, 0, none⟩ = some (.int .i64 a) := fun n os => by rw [cell?_grow _ _ _ (by exact hbig.2.1)]; exact E0.out
  have f1 : ∀ n os, (grow (W1.drewN n) os).cell? ⟨G, 1, none⟩ = some (.int .u64 (u : Int)) := fun n os => by rw [cell?_grow _ _ _ (by exact hbig.2.1)]; exact E1.out
  have f2 : ∀ n os, (grow (W1.drewN n) os).cell? ⟨G1, 0, none⟩ = some (.int .i64 (a + 1)) := fun n os => by rw [cell?_grow _ _ _ (by exact hbig.2.2.1)]; exact e2
  have f3 : ∀ n os, (grow (W1.drewN n) os).cell? ⟨G1, 1, none⟩ = some (.int .u64 ((u : Int) / 2)) := fun n os => by rw [cell?_grow _ _ _ (by exact hbig.2.2.1)]; exact e3
  obtain ⟨A, hA⟩ : ∃ A, dcnt L c = A := ⟨_, rfl⟩
  obtain ⟨B, hB⟩ : ∃ B, dcnt L (sibC c) = B := ⟨_, rfl⟩
  obtain ⟨C, hC⟩ : ∃ C, dcnt L (upC c) = C := ⟨_, rfl⟩
  have l0 : ∀ n os, Sem.run Tryz.prog (Instr.lookup 198 (.map (some b)) (.agg #[.int .i64 a, .int .u64 (u : Int)]) false) (grow (W1.drewN n) os) = .ok (.int .i64 A) (grow (W1.drewN n) os) := fun n os => by
    rw [← hA, ← HE.out.1]; exact (MG.out n os).lookup HK.out.1
  have l1 : ∀ n os, Sem.run Tryz.prog (Instr.lookup 198 (.map (some b)) (.agg #[.int .i64 a, .int .u64 ((u ^^^ 1 : Nat) : Int)]) false) (grow (W1.drewN n) os) = .ok (.int .i64 B) (grow (W1.drewN n) os) := fun n os => by
    rw [← hB, ← HE.out.2.1]; exact (MG.out n os).lookup HK.out.2.1
  have l2 : ∀ n os, Sem.run Tryz.prog (Instr.lookup 198 (.map (some b)) (.agg #[.int .i64 (a + 1), .int .u64 ((u : Int) / 2)]) false) (grow (W1.drewN n) os) = .ok (.int .i64 C) (grow (W1.drewN n) os) := fun n os => by
    rw [← hC, ← HE.out.2.2]; exact (MG.out n os).lookup HK.out.2.2
  have hAll : A + B + C = allC L c := by unfold allC; rw [hA, hB, hC]
  have wAB : IntKind.i64.wrap (A + B) = A + B := by have := HN.out.1; rw [hA, hB] at this; rw [IntKind.wrap_i64]; unfold InI at this; omega
  have wABC : IntKind.i64.wrap (A + B + C) = A + B + C := by have := HN.out.2.1; rw [← hAll] at this; rw [IntKind.wrap_i64]; unfold InI at this; omega
  have HAll := Lib.hid hAll
  obtain ⟨X, hX⟩ : ∃ X : Int, ((u ^^^ 1 : Nat) : Int) = X := ⟨_, rfl⟩
  have hcg : ∀ n os, Calls Tryz.prog 256 #[.agg #[.int .i64 a, .int .u64 (u : Int)]] (grow (W1.drewN n) os) fun e w' => e = .returned (.agg #[.int .i64 a, .int .u64 X]) ∧ ∃ q os', w' = grow ((grow (W1.drewN n) os).drewN q) os' := fun n os =>
    (KSib.out _).mono fun e w' ⟨q1, os', q2⟩ => ⟨by rw [q1, hX], 0, os', q2⟩
  rw [hX] at l1
  have HX := Lib.hid hX
  have HBIG := Lib.hid hbig
  clear hA hB hC hAll e2 e3 hX hbig
  go_wp2_with fail
  clear hW1 hG1
  go_quiet_grown (first | (go_at_call 256; refine Calls.grown_of (hcg _ _)))
  dsimp only
  have g0 := f0 nq osq
  have g1 := f1 nq osq
  have g2 := f2 nq osq
  have g3 := f3 nq osq
  have g4 := f4 nq osq
  have M2 := Lib.hid (MG.out nq osq)
  have B2 := Lib.hid (HBW.out.trans ((Grew.below ⟨nq, osq, rfl⟩ : Below W1.heap.size W1 (grow (W1.drewN nq) osq)).mono HBW.out.size))
  clear f0 f1 f2 f3 f4 l0 l1 l2 hcg MG E0 E1 E4
  generalize grow (W1.drewN nq) osq = wv at g0 g1 g2 g3 g4 M2 B2 ⊢
  clear nq osq HBW M1 HBIG
  obtain ⟨S, hS⟩ : ∃ S, A + B + C = S := ⟨_, rfl⟩
  rw [hS] at HAll ⊢
  clear wAB wABC hS
  by_cases hm : most < S
  · have HM := Lib.hid hm
    go_wp2_with fail
    refine bodyPost_ret (results_tmp rfl _ _ _) rfl ?_
    refine .inl ⟨by rw [← HAll.out]; exact HM.out, rfl, T, fun _ _ => rfl, Else.of_below B2.out, b, ?_, HD.out.tp, M2.out, HD.out.tb⟩
    rw [B2.out.block p (lt_of_heap HD.out.head)]
    exact HD.out.head
  · have HM := Lib.hid hm
    have hmz : ¬ most < S := hm
    obtain ⟨w3, r1, M3, t3⟩ := (M2.out.of_block (w' := wv.drew) rfl).update HK.out.2.2 HN.out.2.1 HN.out.2.2
    rw [HE.out.2.2] at r1
    rw [← HAll.out] at r1
    have RU : Sem.run Tryz.prog (Instr.mapUpdate 198 (.map (some b)) (.agg #[.int .i64 (a + 1), .int .u64 ((u : Int) / 2)]) (.int .i64 S)) wv.drew = .ok () w3 := r1
    have HM3 := Lib.hid M3
    have HT3 := Lib.hid t3
    have HP := Lib.hid (lt_of_cell g4)
    have k3 : ∀ r j, r ≠ b → r < wv.heap.size → w3.cell? ⟨r, j, none⟩ = wv.cell? ⟨r, j, none⟩ := fun r j hr hlt => World.cell?_of_block (w := wv.drew) (t3.grown.block r hlt (by simp [hr]))
    have hpb : p ≠ b := HD.out.ne
    have m4 : w3.cell? ⟨p, 2, none⟩ = some (.map (some b)) := by rw [k3 p 2 hpb (lt_of_cell g4)]; exact g4
    have m0 : w3.cell? ⟨G, 0, none⟩ = some (.int .i64 a) := by rw [k3 G 0 (by have := HGb.out; omega) (lt_of_cell g0)]; exact g0
    have m1 : w3.cell? ⟨G, 1, none⟩ = some (.int .u64 (u : Int)) := by rw [k3 G 1 (by have := HGb.out; omega) (lt_of_cell g1)]; exact g1
    obtain ⟨w4, r4, M4, t4⟩ := (M3.of_block (w' := w3.drew) rfl).drop HK.out.1 0
    rw [HE.out.1] at r4
    have k4 : ∀ r j, r ≠ b → r < w3.heap.size → w4.cell? ⟨r, j, none⟩ = w3.cell? ⟨r, j, none⟩ := fun r j hr hlt => World.cell?_of_block (w := w3.drew) (t4.grown.block r hlt (by simp [hr]))
    have n4 : w4.cell? ⟨p, 2, none⟩ = some (.map (some b)) := by rw [k4 p 2 hpb (lt_of_cell m4)]; exact m4
    have n0 : w4.cell? ⟨G, 0, none⟩ = some (.int .i64 a) := by rw [k4 G 0 (by have := HGb.out; omega) (lt_of_cell m0)]; exact m0
    have n1 : w4.cell? ⟨G, 1, none⟩ = some (.int .u64 (u : Int)) := by rw [k4 G 1 (by have := HGb.out; omega) (lt_of_cell m1)]; exact m1
    have el3 : Else (fun x => T x = some i) w w3 := ((Else.of_below (O := fun x => T x = some i) B2.out).drew).trans (Else.of_grown t3.grown) (fun x hx => .inl (by cases hx; exact HD.out.tb))
    have el4 : Else (fun x => T x = some i) w w4 := (el3.drew).trans (Else.of_grown t4.grown) (fun x hx => .inl (by cases hx; exact HD.out.tb))
    have hd4 : w4.heap[p]? = some (.cells #[.int .i64 k, .int .i64 n, .map (some b)] 200 (0, 0)) := by
      rw [t4.grown.block p (lt_of_cell m4) (by simp [hpb])]
      show w3.heap[p]? = _
      rw [t3.grown.block p (lt_of_cell g4) (by simp [hpb])]
      show wv.heap[p]? = _
      rw [B2.out.block p (lt_of_heap HD.out.head)]
      exact HD.out.head
    have FIN := Lib.hid (fun (W5 : World) (hb5 : Below w4.heap.size w4 W5) => show ∃ w6, (Builtin.delete_ #[198, 310] 0 #[.map (some b), .agg #[.int .i64 a, .int .u64 X]]).run Tryz.prog W5 = .ok (.tuple #[]) w6 ∧ Goes T i w (Dl p k n (liftL L c)) w6 from by
      obtain ⟨w6, r6, M6, t6⟩ := (M4.of_block (hb5.block b M4.lt)).drop HK.out.2.1 0
      rw [HE.out.2.1, HX.out] at r6
      refine ⟨w6, r6, T, fun _ _ => rfl, (el4.trans (Else.of_below (O := fun x => T x = some i) hb5) (fun x hx => .inl hx)).trans (Else.of_grown t6.grown) (fun x hx => .inl (by cases hx; exact HD.out.tb)), b, ?_, HD.out.tp, M6, HD.out.tb⟩
      rw [t6.grown.block p (Nat.lt_of_lt_of_le (lt_of_heap hd4) hb5.size) (by simp [hpb]), hb5.block p (lt_of_heap hd4)]
      exact hd4)
    have R4 := Lib.hid r4
    have HM4 := Lib.hid M4
    have HT4 := Lib.hid t4
    clear hm r1 M3 t3 k3 k4 r4 M4 t4 hpb el3 el4 hd4
    go_wp2_with fail
    go_region
    clear RU g0 g1 g2 g3 g4
    go_wp2_with fail
    go_region_law (refine step_deleteD rfl (.tmp 44) (.tmp 45) 198 310 rfl rfl rfl R4.out ?_)
    all_goals
      clear m0 m1 m4
      go_wp2_with fail
      refine wp_region_mix (fun V => V.cell? ⟨p, 2, none⟩ = some (.map (some b)) ∧ V.cell? ⟨G, 0, none⟩ = some (.int .i64 a) ∧ V.cell? ⟨G, 1, none⟩ = some (.int .u64 (u : Int))) 6 [(true, 0), (true, 1), (true, 2), (true, 3), (true, 4), (false, 5), (false, 6)] (by kernel_rfl) (by decide +kernel) rfl (by decide +kernel) ⟨n4, n0, n1⟩ ?_
      iterate 5
        refine wpMix_take (v := ?_) rfl rfl ?_ ?_
        rotate_left
        · (intro W hW; (try dsimp only at hW); go_simp) <;> with_reducible rfl
        simp only [Act.put, List.setIfInBounds_toArray, List.set_cons_zero, List.set_cons_succ]
      refine wpMix_run rfl ?_
      intro K hK
      go_wp2_with fail
      refine (KSib.out _).mono ?_
      rintro e w5 ⟨rfl, os5, rfl⟩
      rw [HX.out]
      have hS5 : (grow w4.drew os5).cell? ⟨p, 2, none⟩ = some (.map (some b)) ∧ (grow w4.drew os5).cell? ⟨G, 0, none⟩ = some (.int .i64 a) ∧ (grow w4.drew os5).cell? ⟨G, 1, none⟩ = some (.int .u64 (u : Int)) :=
        ⟨by rw [cell?_grow _ _ _ (by exact lt_of_cell n4)]; exact n4, by rw [cell?_grow _ _ _ (by exact lt_of_cell n0)]; exact n0, by rw [cell?_grow _ _ _ (by exact lt_of_cell n1)]; exact n1⟩
      obtain ⟨w6, r6, hGo⟩ := FIN.out (grow w4.drew os5) (Grew.below ⟨1, os5, rfl⟩)
      have R6 := Lib.hid hGo
      go_wp2_with fail
      refine hK.out _ _ (fun _ => hS5) ?_
      clear hK K hS5 hGo n4 n0 n1
      refine wpMix_run rfl ?_
      intro K hK
      go_wp2_with fail
      refine hK.out _ _ (fun h => absurd rfl h) ?_
      clear hK K
      refine wpMix_nil ?_
      clear r6
      go_wp2_with fail
      refine bodyPost_ret (results_tmp rfl _ _ _) rfl ?_
      exact .inr ⟨by rw [← HAll.out]; have := HM.out; omega, rfl, R6⟩
end Go.Proofs.YtlhpbfjelgmkeaaGreat.Dig
