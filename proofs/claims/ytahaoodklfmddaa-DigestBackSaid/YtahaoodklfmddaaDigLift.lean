/- Contract of digest's lift: counts given to the parent, where they are few. Conditions: a digest that was made. -/
import Derived.Test.YtahaoodklfmddaaDigPrefX
import Derived.Test.YtahaoodklfmddaaDigBits
import Derived.Test.YtahaoodklfmddaaDigPlaces
import Derived.Test.YtahaoodklfmddaaDigAdd
import Derived.Test.YtahaoodklfmddaaDigRank
import Derived.Test.YtahaoodklfmddaaDigLiftP
set_option maxRecDepth 100000
namespace Go.Proofs.Ytahaoodklfmddaa
open Go.RowKit Go.Maps Go.Sort Go.Shelf

theorem kV_at (c : Nat) : kV c = .agg #[.int .i64 ((c / 18446744073709551616 : Nat) : Int), .int .u64 ((c % 18446744073709551616 : Nat) : Int)] := rfl

/-- a deletion from a map as one step of a region that draws, its run being known -/
theorem step_deleteD {P : Program} {ops : Array Oper} {o : Oper} {a : Act} {w w' : World} {K : Act → World → Prop} {Q : Exit → Act → World → Prop} {E : Prop} {mv kv v' : Value}
    (hg : o.guard = none) (m x : Operand) (t k : TypeId) (hop : o.op = Op.call { callee := Callee.builtin Builtin.delete, args := #[m, x], argTypes := #[t, k] }) (hm : a.eval m = mv) (hx : a.eval x = kv)
    (hrun : (Builtin.delete_ #[t, k] o.type #[mv, kv]).run P w = .ok v' w') (hK : K (a.put o.dst v') w') :
    if Region.wanted o (yielded ops a.tmps) = true then Oper.wp P o a w K Q else E := by
  have hw : Region.wanted o (yielded ops a.tmps) = true := by simp [Region.wanted, hg]
  rw [if_pos hw]
  unfold Oper.wp
  simp [execOp, hop, resolve, invoke, builtin, hm, hx, hrun, Result.andThen]
  exact hK

set_option maxHeartbeats 4000000 in
theorem lift_at {T : Tags} {i : Nat} {w : World} {p k b : Nat} {n most : Int} {L : DL} (h : DkAt T i w p k n b L) {c : Nat} (hc : KIn c) (hcl : c / 18446744073709551616 ≤ 63) (h1 : InI (dcnt L c + dcnt L (sibC c))) (h2 : InI (allC L c)) (hl : L.length < maxLen) :
    Calls Try.prog 60 #[.pointer (some ⟨p, 0, none⟩), kV c, .int .i64 most] w fun e w' =>
      (most < allC L c ∧ e = .returned (.bool false) ∧ Hid (Goes T i w (Dl p k n L) w')) ∨ (allC L c ≤ most ∧ e = .returned (.bool true) ∧ Hid (Goes T i w (Dl p k n (liftL L c)) w')) := by
  obtain ⟨a, ha⟩ : ∃ a : Int, a = ((c / 18446744073709551616 : Nat) : Int) := ⟨_, rfl⟩
  obtain ⟨u, hu⟩ : ∃ u : Nat, u = c % 18446744073709551616 := ⟨_, rfl⟩
  have hul : u < 18446744073709551616 := by omega
  have ec : kV c = .agg #[.int .i64 a, .int .u64 (u : Int)] := by rw [ha, hu]; rfl
  have es : kV (sibC c) = .agg #[.int .i64 a, .int .u64 ((u ^^^ 1 : Nat) : Int)] := by rw [kV_at, (sib_lev c).1, (sib_lev c).2, ha, hu]
  have eu : kV (upC c) = .agg #[.int .i64 (a + 1), .int .u64 ((u : Int) / 2)] := by
    rw [kV_at, (up_lev c).1, (up_lev c).2, ha, hu]
    simp
  have hcs : KIn (sibC c) := by
    have := (sib_lev c).1
    have h3 := cd_self (sibC c)
    unfold KIn cd at *
    omega
  have hcu : KIn (upC c) := by
    have := (up_lev c).1
    have h3 := cd_self (upC c)
    unfold KIn cd at *
    omega
  obtain ⟨G, hG⟩ : ∃ G, w.heap.size = G := ⟨_, rfl⟩
  obtain ⟨W0, hW0⟩ : ∃ W0, w.alloc (.cells #[.int .i64 a, .int .u64 (u : Int)] 67) = W0 := ⟨_, rfl⟩
  have KPar := parent_any (a := a) (u := (u : Int)) (by omega) (by omega) W0
  have KSib := Lib.hid (fun W => sibling_any (a := a) hul W)
  have hb0 : Below w.heap.size w W0 := by rw [← hW0]; exact (Below.refl _ w).alloc (Nat.le_refl _) _
  have d0 : W0.cell? ⟨G, 0, none⟩ = some (.int .i64 a) := by rw [← hW0, ← hG, cell_of_row _ _ _ _ _ _ (heap_alloc_new w _)]; rfl
  have d1 : W0.cell? ⟨G, 1, none⟩ = some (.int .u64 (u : Int)) := by rw [← hW0, ← hG, cell_of_row _ _ _ _ _ _ (heap_alloc_new w _)]; rfl
  rw [ec]
  have HD := Lib.hid h
  have HE := Lib.hid (And.intro ec (And.intro es eu))
  have HK := Lib.hid (And.intro hc (And.intro hcs hcu))
  have HN := Lib.hid (And.intro h1 (And.intro h2 hl))
  have HB0 := Lib.hid hb0
  clear h h1 h2 hl ha hu hul ec es eu hc hcs hcu hcl hb0
  go_enter Try.func60, Try.ntmps60
  go_wp2_with fail
  refine KPar.mono ?_
  rintro e w1 ⟨rfl, os1, rfl⟩
  have HGb := Lib.hid (show b < G by have := HD.out.map.lt; omega)
  clear KPar hG hW0
  obtain ⟨G1, hG1⟩ : ∃ G1, (grow W0 os1).heap.size = G1 := ⟨_, rfl⟩
  obtain ⟨W1, hW1⟩ : ∃ W1, (grow W0 os1).alloc (.cells #[.int .i64 (a + 1), .int .u64 ((u : Int) / 2)] 67) = W1 := ⟨_, rfl⟩
  have hb1 : Below W0.heap.size W0 W1 := by rw [← hW1]; exact (Grew.below ⟨0, os1, rfl⟩).alloc (by rw [size_grow]; exact Nat.le_add_right _ _) _
  have e0 : W1.cell? ⟨G, 0, none⟩ = some (.int .i64 a) := by rw [hb1.cell (lt_of_cell d0)]; exact d0
  have e1 : W1.cell? ⟨G, 1, none⟩ = some (.int .u64 (u : Int)) := by rw [hb1.cell (lt_of_cell d1)]; exact d1
  have e2 : W1.cell? ⟨G1, 0, none⟩ = some (.int .i64 (a + 1)) := by rw [← hW1, ← hG1, cell_of_row _ _ _ _ _ _ (heap_alloc_new _ _)]; rfl
  have e3 : W1.cell? ⟨G1, 1, none⟩ = some (.int .u64 ((u : Int) / 2)) := by rw [← hW1, ← hG1, cell_of_row _ _ _ _ _ _ (heap_alloc_new _ _)]; rfl
  have hbw : Below w.heap.size w W1 := HB0.out.trans (hb1.mono HB0.out.size)
  obtain ⟨_, _, c2, _⟩ := HD.out.cells
  have e4 : W1.cell? ⟨p, 2, none⟩ = some (.map (some b)) := by rw [hbw.cell (lt_of_cell c2)]; exact c2
  have HBW := Lib.hid hbw
  have HG1b := Lib.hid (show b < G1 by have := HD.out.map.lt; have := HB0.out.size; rw [← hG1, size_grow]; omega)
  have E0 := Lib.hid e0
  have E1 := Lib.hid e1
  have E4 := Lib.hid e4
  clear d0 d1 c2 hb1 hbw e0 e1 e4 HB0
  have mixed : Try.prog.follows .mixedOrders = true := by kernel_rfl
  have hbig : p < W1.heap.size ∧ G < W1.heap.size ∧ G1 < W1.heap.size ∧ b < W1.heap.size := ⟨lt_of_cell E4.out, lt_of_cell E0.out, lt_of_cell e2, by have := HD.out.map.lt; have := HBW.out.size; omega⟩
  have M1 := Lib.hid (HD.out.map.of_block (HBW.out.block b HD.out.map.lt))
  have MG := Lib.hid (fun (n : Nat) (os : Array Obj) => M1.out.of_block (w' := grow (W1.drewN n) os) (heap_grow_old _ _ hbig.2.2.2))
  have f4 : ∀ n os, (grow (W1.drewN n) os).cell? ⟨p, 2, none⟩ = some (.map (some b)) := fun n os => by rw [cell?_grow _ _ _ (by exact hbig.1)]; exact E4.out
  have f0 : ∀ n os, (grow (W1.drewN n) os).cell? ⟨G, 0, none⟩ = some (.int .i64 a) := fun n os => by rw [cell?_grow _ _ _ (by exact hbig.2.1)]; exact E0.out
  have f1 : ∀ n os, (grow (W1.drewN n) os).cell? ⟨G, 1, none⟩ = some (.int .u64 (u : Int)) := fun n os => by rw [cell?_grow _ _ _ (by exact hbig.2.1)]; exact E1.out
  have f2 : ∀ n os, (grow (W1.drewN n) os).cell? ⟨G1, 0, none⟩ = some (.int .i64 (a + 1)) := fun n os => by rw [cell?_grow _ _ _ (by exact hbig.2.2.1)]; exact e2
  have f3 : ∀ n os, (grow (W1.drewN n) os).cell? ⟨G1, 1, none⟩ = some (.int .u64 ((u : Int) / 2)) := fun n os => by rw [cell?_grow _ _ _ (by exact hbig.2.2.1)]; exact e3
  obtain ⟨A, hA⟩ : ∃ A, dcnt L c = A := ⟨_, rfl⟩
  obtain ⟨B, hB⟩ : ∃ B, dcnt L (sibC c) = B := ⟨_, rfl⟩
  obtain ⟨C, hC⟩ : ∃ C, dcnt L (upC c) = C := ⟨_, rfl⟩
  have l0 : ∀ n os, Sem.run Try.prog (Instr.lookup 60 (.map (some b)) (.agg #[.int .i64 a, .int .u64 (u : Int)]) false) (grow (W1.drewN n) os) = .ok (.int .i64 A) (grow (W1.drewN n) os) := fun n os => by
    rw [← hA, ← HE.out.1]; exact (MG.out n os).lookup HK.out.1
  have l1 : ∀ n os, Sem.run Try.prog (Instr.lookup 60 (.map (some b)) (.agg #[.int .i64 a, .int .u64 ((u ^^^ 1 : Nat) : Int)]) false) (grow (W1.drewN n) os) = .ok (.int .i64 B) (grow (W1.drewN n) os) := fun n os => by
    rw [← hB, ← HE.out.2.1]; exact (MG.out n os).lookup HK.out.2.1
  have l2 : ∀ n os, Sem.run Try.prog (Instr.lookup 60 (.map (some b)) (.agg #[.int .i64 (a + 1), .int .u64 ((u : Int) / 2)]) false) (grow (W1.drewN n) os) = .ok (.int .i64 C) (grow (W1.drewN n) os) := fun n os => by
    rw [← hC, ← HE.out.2.2]; exact (MG.out n os).lookup HK.out.2.2
  have hAll : A + B + C = allC L c := by unfold allC; rw [hA, hB, hC]
  have wAB : IntKind.i64.wrap (A + B) = A + B := by have := HN.out.1; rw [hA, hB] at this; rw [IntKind.wrap_i64]; unfold InI at this; omega
  have wABC : IntKind.i64.wrap (A + B + C) = A + B + C := by have := HN.out.2.1; rw [← hAll] at this; rw [IntKind.wrap_i64]; unfold InI at this; omega
  have HAll := Lib.hid hAll
  obtain ⟨X, hX⟩ : ∃ X : Int, ((u ^^^ 1 : Nat) : Int) = X := ⟨_, rfl⟩
  have hcg : ∀ n os, Calls Try.prog 74 #[.agg #[.int .i64 a, .int .u64 (u : Int)]] (grow (W1.drewN n) os) fun e w' => e = .returned (.agg #[.int .i64 a, .int .u64 X]) ∧ ∃ q os', w' = grow ((grow (W1.drewN n) os).drewN q) os' := fun n os =>
    (KSib.out _).mono fun e w' ⟨q1, os', q2⟩ => ⟨by rw [q1, hX], 0, os', q2⟩
  rw [hX] at l1
  have HX := Lib.hid hX
  have HBIG := Lib.hid hbig
  clear hA hB hC hAll e2 e3 hX hbig
  go_wp2_with fail
  clear hW1 hG1
  go_quiet_grown (first | (go_at_call 74; refine Calls.grown_of (hcg _ _)))
  dsimp only
  have g0 := f0 nq osq
  have g1 := f1 nq osq
  have g2 := f2 nq osq
  have g3 := f3 nq osq
  have g4 := f4 nq osq
  have M2 := Lib.hid (MG.out nq osq)
  have B2 := Lib.hid (HBW.out.trans ((Grew.below ⟨nq, osq, rfl⟩ : Below W1.heap.size W1 (grow (W1.drewN nq) osq)).mono HBW.out.size))
  clear f0 f1 f2 f3 f4 l0 l1 l2 hcg MG E0 E1 E4
  generalize grow (W1.drewN nq) osq = wv at g0 g1 g2 g3 g4 M2 B2 ⊢
  clear nq osq HBW M1 HBIG
  obtain ⟨S, hS⟩ : ∃ S, A + B + C = S := ⟨_, rfl⟩
  rw [hS] at HAll ⊢
  clear wAB wABC hS
  by_cases hm : most < S
  · have HM := Lib.hid hm
    go_wp2_with fail
    refine bodyPost_ret (results_tmp rfl _ _ _) rfl ?_
    refine .inl ⟨by rw [← HAll.out]; exact HM.out, rfl, T, fun _ _ => rfl, Else.of_below B2.out, b, ?_, HD.out.tp, M2.out, HD.out.tb⟩
    rw [B2.out.block p (lt_of_heap HD.out.head)]
    exact HD.out.head
  · have HM := Lib.hid hm
    have hmz : ¬ most < S := hm
    obtain ⟨w3, r1, M3, t3⟩ := (M2.out.of_block (w' := wv.drew) rfl).update HK.out.2.2 HN.out.2.1 HN.out.2.2
    rw [HE.out.2.2] at r1
    rw [← HAll.out] at r1
    have RU : Sem.run Try.prog (Instr.mapUpdate 60 (.map (some b)) (.agg #[.int .i64 (a + 1), .int .u64 ((u : Int) / 2)]) (.int .i64 S)) wv.drew = .ok () w3 := r1
    have HM3 := Lib.hid M3
    have HT3 := Lib.hid t3
    have HP := Lib.hid (lt_of_cell g4)
    have k3 : ∀ r j, r ≠ b → r < wv.heap.size → w3.cell? ⟨r, j, none⟩ = wv.cell? ⟨r, j, none⟩ := fun r j hr hlt => World.cell?_of_block (w := wv.drew) (t3.grown.block r hlt (by simp [hr]))
    have hpb : p ≠ b := HD.out.ne
    have m4 : w3.cell? ⟨p, 2, none⟩ = some (.map (some b)) := by rw [k3 p 2 hpb (lt_of_cell g4)]; exact g4
    have m0 : w3.cell? ⟨G, 0, none⟩ = some (.int .i64 a) := by rw [k3 G 0 (by have := HGb.out; omega) (lt_of_cell g0)]; exact g0
    have m1 : w3.cell? ⟨G, 1, none⟩ = some (.int .u64 (u : Int)) := by rw [k3 G 1 (by have := HGb.out; omega) (lt_of_cell g1)]; exact g1
    obtain ⟨w4, r4, M4, t4⟩ := (M3.of_block (w' := w3.drew) rfl).drop HK.out.1 0
    rw [HE.out.1] at r4
    have k4 : ∀ r j, r ≠ b → r < w3.heap.size → w4.cell? ⟨r, j, none⟩ = w3.cell? ⟨r, j, none⟩ := fun r j hr hlt => World.cell?_of_block (w := w3.drew) (t4.grown.block r hlt (by simp [hr]))
    have n4 : w4.cell? ⟨p, 2, none⟩ = some (.map (some b)) := by rw [k4 p 2 hpb (lt_of_cell m4)]; exact m4
    have n0 : w4.cell? ⟨G, 0, none⟩ = some (.int .i64 a) := by rw [k4 G 0 (by have := HGb.out; omega) (lt_of_cell m0)]; exact m0
    have n1 : w4.cell? ⟨G, 1, none⟩ = some (.int .u64 (u : Int)) := by rw [k4 G 1 (by have := HGb.out; omega) (lt_of_cell m1)]; exact m1
    have el3 : Else (fun x => T x = some i) w w3 := ((Else.of_below (O := fun x => T x = some i) B2.out).drew).trans (Else.of_grown t3.grown) (fun x hx => .inl (by cases hx; exact HD.out.tb))
    have el4 : Else (fun x => T x = some i) w w4 := (el3.drew).trans (Else.of_grown t4.grown) (fun x hx => .inl (by cases hx; exact HD.out.tb))
    have hd4 : w4.heap[p]? = some (.cells #[.int .i64 k, .int .i64 n, .map (some b)] 62 (0, 0)) := by
      rw [t4.grown.block p (lt_of_cell m4) (by simp [hpb])]
      show w3.heap[p]? = _
      rw [t3.grown.block p (lt_of_cell g4) (by simp [hpb])]
      show wv.heap[p]? = _
      rw [B2.out.block p (lt_of_heap HD.out.head)]
      exact HD.out.head
    have FIN := Lib.hid (fun (W5 : World) (hb5 : Below w4.heap.size w4 W5) => show ∃ w6, (Builtin.delete_ #[60, 67] 0 #[.map (some b), .agg #[.int .i64 a, .int .u64 X]]).run Try.prog W5 = .ok (.tuple #[]) w6 ∧ Goes T i w (Dl p k n (liftL L c)) w6 from by
      obtain ⟨w6, r6, M6, t6⟩ := (M4.of_block (hb5.block b M4.lt)).drop HK.out.2.1 0
      rw [HE.out.2.1, HX.out] at r6
      refine ⟨w6, r6, T, fun _ _ => rfl, (el4.trans (Else.of_below (O := fun x => T x = some i) hb5) (fun x hx => .inl hx)).trans (Else.of_grown t6.grown) (fun x hx => .inl (by cases hx; exact HD.out.tb)), b, ?_, HD.out.tp, M6, HD.out.tb⟩
      rw [t6.grown.block p (Nat.lt_of_lt_of_le (lt_of_heap hd4) hb5.size) (by simp [hpb]), hb5.block p (lt_of_heap hd4)]
      exact hd4)
    have R4 := Lib.hid r4
    have HM4 := Lib.hid M4
    have HT4 := Lib.hid t4
    clear hm r1 M3 t3 k3 k4 r4 M4 t4 hpb el3 el4 hd4
    go_wp2_with fail
    go_region
    clear RU g0 g1 g2 g3 g4
    go_wp2_with fail
    go_region_law (refine step_deleteD rfl (.tmp 44) (.tmp 45) 60 67 rfl rfl rfl R4.out ?_)
    all_goals
      clear m0 m1 m4
      go_wp2_with fail
      refine wp_region_mix (fun V => V.cell? ⟨p, 2, none⟩ = some (.map (some b)) ∧ V.cell? ⟨G, 0, none⟩ = some (.int .i64 a) ∧ V.cell? ⟨G, 1, none⟩ = some (.int .u64 (u : Int))) 6 [(true, 0), (true, 1), (true, 2), (true, 3), (true, 4), (false, 5), (false, 6)] (by kernel_rfl) (by decide +kernel) rfl (by decide +kernel) ⟨n4, n0, n1⟩ ?_
      iterate 5
        refine wpMix_take (v := ?_) rfl rfl ?_ ?_
        rotate_left
        · (intro W hW; (try dsimp only at hW); go_simp) <;> with_reducible rfl
        simp only [Act.put, List.setIfInBounds_toArray, List.set_cons_zero, List.set_cons_succ]
      refine wpMix_run rfl ?_
      intro K hK
      go_wp2_with fail
      refine (KSib.out _).mono ?_
      rintro e w5 ⟨rfl, os5, rfl⟩
      rw [HX.out]
      have hS5 : (grow w4.drew os5).cell? ⟨p, 2, none⟩ = some (.map (some b)) ∧ (grow w4.drew os5).cell? ⟨G, 0, none⟩ = some (.int .i64 a) ∧ (grow w4.drew os5).cell? ⟨G, 1, none⟩ = some (.int .u64 (u : Int)) :=
        ⟨by rw [cell?_grow _ _ _ (by exact lt_of_cell n4)]; exact n4, by rw [cell?_grow _ _ _ (by exact lt_of_cell n0)]; exact n0, by rw [cell?_grow _ _ _ (by exact lt_of_cell n1)]; exact n1⟩
      obtain ⟨w6, r6, hGo⟩ := FIN.out (grow w4.drew os5) (Grew.below ⟨1, os5, rfl⟩)
      have R6 := Lib.hid hGo
      go_wp2_with fail
      refine hK.out _ _ (fun _ => hS5) ?_
      clear hK K hS5 hGo n4 n0 n1
      refine wpMix_run rfl ?_
      intro K hK
      go_wp2_with fail
      refine hK.out _ _ (fun h => absurd rfl h) ?_
      clear hK K
      refine wpMix_nil ?_
      clear r6
      go_wp2_with fail
      refine bodyPost_ret (results_tmp rfl _ _ _) rfl ?_
      exact .inr ⟨by rw [← HAll.out]; have := HM.out; omega, rfl, R6⟩
end Go.Proofs.Ytahaoodklfmddaa
