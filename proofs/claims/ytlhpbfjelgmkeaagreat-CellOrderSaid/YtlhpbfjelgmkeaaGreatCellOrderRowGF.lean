/- The texts CelC CelD Push Hold2, one behind the other; each one's own comment says what it holds. -/
import Derived.Test.YtlhpbfjelgmkeaaGreatCellOrderRowGE
import Derived.Test.YtlhpbfjelgmkeaaGreatGen
import Derived.Maps.AppendAt
/- What a measure keeps: taking a value: leasts, greatests, distinct sketches. Conditions: values of kinds, short texts. -/
set_option maxRecDepth 100000
namespace Go.Proofs.YtlhpbfjelgmkeaaGreat
open Go.RowKit Go.Maps Go.Sort Go.Lib

def cmpVV (a b : VV) : Int := cmpV a.k a.n a.s b.k b.n b.s
/-- the least of both; a Null is none -/
def lowV (o v : VV) : VV := if (o.k == 0) = true then v else if decide (cmpVV v o < 0) = true then v else o
def highV (o v : VV) : VV := if decide (0 < cmpVV v o) = true then v else o
theorem low_null {o v : VV} (h : (o.k == 0) = true) : lowV o v = v := by unfold lowV; rw [if_pos h]
theorem low_less {o v : VV} (h : (o.k == 0) = false) (h2 : decide (cmpVV v o < 0) = true) : lowV o v = v := by unfold lowV; rw [if_neg (by rw [h]; simp), if_pos h2]
theorem low_stay {o v : VV} (h : (o.k == 0) = false) (h2 : decide (cmpVV v o < 0) = false) : lowV o v = o := by unfold lowV; rw [if_neg (by rw [h]; simp), if_neg (by rw [h2]; simp)]
theorem high_more {o v : VV} (h2 : decide (0 < cmpVV v o) = true) : highV o v = v := by unfold highV; rw [if_pos h2]
theorem high_stay {o v : VV} (h2 : decide (0 < cmpVV v o) = false) : highV o v = o := by unfold highV; rw [if_neg (by rw [h2]; simp)]
/-- short enough to be copied, of a number that is an int -/
def VV.fine (v : VV) : Prop := v.s.size ≤ 1000000 ∧ -9223372036854775808 ≤ v.n ∧ v.n < 9223372036854775808
def C3v (b : Nat) (v : VV) (V : World) : Prop := V.cell? ⟨b, 0, none⟩ = some (.int .i64 v.k) ∧ V.cell? ⟨b, 1, none⟩ = some (.int .i64 v.n) ∧ V.cell? ⟨b, 2, none⟩ = some (.string v.s)
theorem c3v_of {b : Nat} {v : VV} {V : World} {t : TypeId} (h : V.heap[b]? = some (.cells #[.int .i64 v.k, .int .i64 v.n, .string v.s] t (0, 0))) : C3v b v V :=
  ⟨by rw [cell_of_row _ _ _ _ _ _ h]; rfl, by rw [cell_of_row _ _ _ _ _ _ h]; rfl, by rw [cell_of_row _ _ _ _ _ _ h]; rfl⟩

set_option maxHeartbeats 3200000 in
theorem take_low {w : World} {b : Nat} {o : VV} (h : w.heap[b]? = some (lowO o)) (ho : o.fine) (v : VV) (hv : v.fine) (id : Int) :
    Calls Tryz.prog 202 #[.pointer (some ⟨b, 0, none⟩), v.val, .int .i64 id] w fun e w' => e = .returned (.tuple #[]) ∧ Upd b (lowO (lowV o v)) w w' := by
  have hb := below_c w (.cells #[.int .i64 v.k, .int .i64 v.n, .string v.s] 36)
  have hx := heap_alloc_new w (.cells #[.int .i64 v.k, .int .i64 v.n, .string v.s] 36)
  have hu := Upd.start h hb
  obtain ⟨W, hW⟩ : ∃ W, w.alloc (.cells #[.int .i64 v.k, .int .i64 v.n, .string v.s] 36) = W := ⟨_, rfl⟩
  rw [hW] at hb hx hu
  have KCM := Lib.hid (fun V => vcmp_any v.k v.n v.s o.k o.n o.s hv.2.1 hv.2.2 ho.2.1 ho.2.2 V)
  have HC := Lib.hid (fun V => ccopied_any v hv.1 V)
  have HU := Lib.hid (fun (V : World) (hV : Below W.heap.size W V) => hu.below hV)
  have HS := Lib.hid (fun (V : World) (hV : Below W.heap.size W V) => And.intro (c3v_of ((hV.block _ (lt_of_heap hx)).trans hx)) (c3v_of ((hV.block _ (lt_of_heap hu.2)).trans hu.2)))
  have HX := Lib.hid hx
  obtain ⟨R, hR⟩ : ∃ R, lowV o v = R := ⟨_, rfl⟩
  rw [hR]
  have HRR := Lib.hid hR
  have hbd := below_drew1 W

  obtain ⟨bc, hbc⟩ : ∃ bc, decide (cmpV v.k v.n v.s o.k o.n o.s < 0) = bc := ⟨_, rfl⟩
  obtain ⟨cc, hcc⟩ : ∃ cc, cmpV v.k v.n v.s o.k o.n o.s = cc := ⟨_, rfl⟩
  rw [hcc] at KCM
  rw [hcc] at hbc
  have HCC : Hid (cmpVV v o = cc) := Lib.hid hcc
  obtain ⟨vk, vn, vs⟩ := v
  obtain ⟨ok, on, os⟩ := o
  unfold C3v at HS
  rw [one_val]
  simp only at KCM HC HU HS hW HRR HCC ⊢
  clear h hb hx hu ho hv hcc HX hR

  have c0 := HS.out _ hbd
  by_cases hk : ok = 0
  · have hk1 : (ok == 0) = true := by simpa using hk
    have HK1 := Lib.hid hk1
    obtain ⟨bk, hbk⟩ : ∃ bk, bk = true := ⟨_, rfl⟩
    rw [← hbk] at hk1
    have HBK := Lib.hid hbk
    clear hk hbk c0 hbc
    go_enter Tryz.func202, Tryz.ntmps202
    go_upto_region 1 with (fail)
    clear hW
    refine wp_region_mix (fun V => (V.cell? ⟨w.heap.size, 0, none⟩ = some (.int .i64 vk) ∧ V.cell? ⟨w.heap.size, 1, none⟩ = some (.int .i64 vn) ∧ V.cell? ⟨w.heap.size, 2, none⟩ = some (.string vs)) ∧ V.cell? ⟨b, 0, none⟩ = some (.int .i64 ok) ∧ V.cell? ⟨b, 1, none⟩ = some (.int .i64 on) ∧ V.cell? ⟨b, 2, none⟩ = some (.string os)) 15 [(true, 0), (true, 1), (true, 2), (true, 3), (true, 4), (true, 5), (true, 6), (true, 7), (true, 8), (true, 9), (true, 10), (true, 11), (true, 12), (true, 13), (true, 14)] (by kernel_rfl) (by decide +kernel) rfl (by decide +kernel) (HS.out _ hbd) ?_
    iterate 7
      refine wpMix_take (v := ?_) rfl rfl ?_ ?_
      rotate_left
      · (intro W hW; (try dsimp only at hW); go_simp) <;> with_reducible rfl
      simp only [Act.put, List.setIfInBounds_toArray, List.set_cons_zero, List.set_cons_succ]
    obtain rfl := HBK.out
    iterate 7
      refine wpMix_skip rfl rfl ?_
      simp only [Act.put, List.setIfInBounds_toArray, List.set_cons_zero, List.set_cons_succ]
    iterate 1
      refine wpMix_take (v := ?_) rfl rfl ?_ ?_
      rotate_left
      · (intro W hW; (try dsimp only at hW); go_simp) <;> with_reducible rfl
      simp only [Act.put, List.setIfInBounds_toArray, List.set_cons_zero, List.set_cons_succ]
    refine wpMix_nil ?_
    clear KCM
    have HB2 := Lib.hid hbd
    have hu2 := HU.out _ HB2.out
    have hs2 := (HS.out _ HB2.out).1
    have KC := HC.out
    clear HS HU HC hbd
    obtain ⟨q0, q1, q2⟩ := hs2
    go_wp2_with fail
    refine (KC _).mono ?_
    rintro e w3 ⟨rfl, hb3⟩
    have hu3 := hu2.below hb3
    have f0 := free_of_row hu3.2 0
    have f1 := free_of_row hu3.2 1
    have f2 := free_of_row hu3.2 2
    have p0 : w3.cell? ⟨b, 0, none⟩ = some (.int .i64 ok) := by rw [cell_of_row _ _ _ _ _ _ hu3.2]; rfl
    have p1 : w3.cell? ⟨b, 1, none⟩ = some (.int .i64 on) := by rw [cell_of_row _ _ _ _ _ _ hu3.2]; rfl
    have p2 : w3.cell? ⟨b, 2, none⟩ = some (.string os) := by rw [cell_of_row _ _ _ _ _ _ hu3.2]; rfl
    have FIN := Lib.hid (show Upd b (lowO R) w _ from by rw [show R = ⟨vk, vn, vs⟩ from HRR.out.symm.trans (low_null HK1.out)]; exact (((hu3.set 0 (.int .i64 vk)).set 1 (.int .i64 vn)).set 2 (.string vs)))
    clear hb3 hu3 hu2 KC HB2 q0 q1 q2
    go_wp2_with fail
    go_end0
    exact ⟨rfl, FIN.out⟩
  have hk1 : (ok == 0) = false := by simpa using hk
  have HK1 := Lib.hid hk1
  clear hk c0
  go_enter Tryz.func202, Tryz.ntmps202
  go_upto_region 1 with (fail)
  clear hW
  refine wp_region_mix (fun V => (V.cell? ⟨w.heap.size, 0, none⟩ = some (.int .i64 vk) ∧ V.cell? ⟨w.heap.size, 1, none⟩ = some (.int .i64 vn) ∧ V.cell? ⟨w.heap.size, 2, none⟩ = some (.string vs)) ∧ V.cell? ⟨b, 0, none⟩ = some (.int .i64 ok) ∧ V.cell? ⟨b, 1, none⟩ = some (.int .i64 on) ∧ V.cell? ⟨b, 2, none⟩ = some (.string os)) 15 [(true, 0), (true, 1), (true, 2), (true, 3), (true, 4), (true, 5), (true, 6), (true, 7), (true, 8), (true, 9), (true, 10), (true, 11), (false, 12), (true, 13), (true, 14)] (by kernel_rfl) (by decide +kernel) rfl (by decide +kernel) (HS.out _ hbd) ?_
  iterate 12
    refine wpMix_take (v := ?_) rfl rfl ?_ ?_
    rotate_left
    · (intro W hW; (try dsimp only at hW); go_simp) <;> with_reducible rfl
    simp only [Act.put, List.setIfInBounds_toArray, List.set_cons_zero, List.set_cons_succ]
  refine wpMix_run rfl ?_
  intro K hK
  go_wp2_with fail
  refine (KCM.out _).mono ?_
  rintro e w2 ⟨rfl, hb2⟩
  have hb2 : Below W.heap.size W w2 := hbd.trans (hb2.mono hbd.size)
  go_wp2_with fail
  refine hK.out _ _ (fun _ => HS.out _ hb2) ?_
  clear hK K KCM
  iterate 2
    refine wpMix_take (v := ?_) rfl rfl ?_ ?_
    rotate_left
    · (intro W hW; (try dsimp only at hW); go_simp) <;> with_reducible rfl
    simp only [Act.put, List.setIfInBounds_toArray, List.set_cons_zero, List.set_cons_succ]
  refine wpMix_nil ?_
  have HBC := Lib.hid hbc
  clear hbc
  cases bc
  · have hu2 := HU.out _ hb2
    have FIN := Lib.hid (show Upd b (lowO R) w _ from by rw [show R = ⟨ok, on, os⟩ from HRR.out.symm.trans (low_stay HK1.out (by rw [HCC.out]; exact HBC.out))]; exact hu2)
    clear HS HU HC hbd hu2
    go_wp2_with fail
    go_end0
    exact ⟨rfl, FIN.out⟩
  · have HB2 := Lib.hid hb2
    have hu2 := HU.out _ HB2.out
    have hs2 := (HS.out _ HB2.out).1
    have KC := HC.out
    clear HS HU HC hbd
    obtain ⟨q0, q1, q2⟩ := hs2
    go_wp2_with fail
    refine (KC _).mono ?_
    rintro e w3 ⟨rfl, hb3⟩
    have hu3 := hu2.below hb3
    have f0 := free_of_row hu3.2 0
    have f1 := free_of_row hu3.2 1
    have f2 := free_of_row hu3.2 2
    have p0 : w3.cell? ⟨b, 0, none⟩ = some (.int .i64 ok) := by rw [cell_of_row _ _ _ _ _ _ hu3.2]; rfl
    have p1 : w3.cell? ⟨b, 1, none⟩ = some (.int .i64 on) := by rw [cell_of_row _ _ _ _ _ _ hu3.2]; rfl
    have p2 : w3.cell? ⟨b, 2, none⟩ = some (.string os) := by rw [cell_of_row _ _ _ _ _ _ hu3.2]; rfl
    have FIN := Lib.hid (show Upd b (lowO R) w _ from by rw [show R = ⟨vk, vn, vs⟩ from HRR.out.symm.trans (low_less HK1.out (by rw [HCC.out]; exact HBC.out))]; exact (((hu3.set 0 (.int .i64 vk)).set 1 (.int .i64 vn)).set 2 (.string vs)))
    clear hb3 hu3 hu2 KC HB2 q0 q1 q2
    go_wp2_with fail
    go_end0
    exact ⟨rfl, FIN.out⟩

set_option maxHeartbeats 3200000 in
theorem take_high {w : World} {b : Nat} {o : VV} (h : w.heap[b]? = some (highO o)) (ho : o.fine) (v : VV) (hv : v.fine) (id : Int) :
    Calls Tryz.prog 204 #[.pointer (some ⟨b, 0, none⟩), v.val, .int .i64 id] w fun e w' => e = .returned (.tuple #[]) ∧ Upd b (highO (highV o v)) w w' := by
  have hb := below_c w (.cells #[.int .i64 v.k, .int .i64 v.n, .string v.s] 36)
  have hx := heap_alloc_new w (.cells #[.int .i64 v.k, .int .i64 v.n, .string v.s] 36)
  have hu := Upd.start h hb
  obtain ⟨W, hW⟩ : ∃ W, w.alloc (.cells #[.int .i64 v.k, .int .i64 v.n, .string v.s] 36) = W := ⟨_, rfl⟩
  rw [hW] at hb hx hu
  have KCM := Lib.hid (fun V => vcmp_any v.k v.n v.s o.k o.n o.s hv.2.1 hv.2.2 ho.2.1 ho.2.2 V)
  have HC := Lib.hid (fun V => ccopied_any v hv.1 V)
  have HU := Lib.hid (fun (V : World) (hV : Below W.heap.size W V) => hu.below hV)
  have HS := Lib.hid (fun (V : World) (hV : Below W.heap.size W V) => And.intro (c3v_of ((hV.block _ (lt_of_heap hx)).trans hx)) (c3v_of ((hV.block _ (lt_of_heap hu.2)).trans hu.2)))
  have HX := Lib.hid hx
  obtain ⟨R, hR⟩ : ∃ R, highV o v = R := ⟨_, rfl⟩
  rw [hR]
  have HRR := Lib.hid hR
  have hbd := below_drew1 W

  obtain ⟨bc, hbc⟩ : ∃ bc, decide (0 < cmpV v.k v.n v.s o.k o.n o.s) = bc := ⟨_, rfl⟩
  obtain ⟨cc, hcc⟩ : ∃ cc, cmpV v.k v.n v.s o.k o.n o.s = cc := ⟨_, rfl⟩
  rw [hcc] at KCM
  rw [hcc] at hbc
  have HCC : Hid (cmpVV v o = cc) := Lib.hid hcc
  obtain ⟨vk, vn, vs⟩ := v
  obtain ⟨ok, on, os⟩ := o
  unfold C3v at HS
  rw [one_val]
  simp only at KCM HC HU HS hW HRR HCC ⊢
  clear h hb hx hu ho hv hcc HX hR
  go_enter Tryz.func204, Tryz.ntmps204
  go_upto_region 1 with (fail)
  clear hW
  refine wp_region_mix (fun V => (V.cell? ⟨w.heap.size, 0, none⟩ = some (.int .i64 vk) ∧ V.cell? ⟨w.heap.size, 1, none⟩ = some (.int .i64 vn) ∧ V.cell? ⟨w.heap.size, 2, none⟩ = some (.string vs)) ∧ V.cell? ⟨b, 0, none⟩ = some (.int .i64 ok) ∧ V.cell? ⟨b, 1, none⟩ = some (.int .i64 on) ∧ V.cell? ⟨b, 2, none⟩ = some (.string os)) 7 [(true, 0), (true, 1), (true, 2), (true, 3), (true, 4), (false, 5), (true, 6)] (by kernel_rfl) (by decide +kernel) rfl (by decide +kernel) (HS.out _ hbd) ?_
  iterate 5
    refine wpMix_take (v := ?_) rfl rfl ?_ ?_
    rotate_left
    · (intro W hW; (try dsimp only at hW); go_simp) <;> with_reducible rfl
    simp only [Act.put, List.setIfInBounds_toArray, List.set_cons_zero, List.set_cons_succ]
  refine wpMix_run rfl ?_
  intro K hK
  go_wp2_with fail
  refine (KCM.out _).mono ?_
  rintro e w2 ⟨rfl, hb2⟩
  have hb2 : Below W.heap.size W w2 := hbd.trans (hb2.mono hbd.size)
  go_wp2_with fail
  refine hK.out _ _ (fun _ => HS.out _ hb2) ?_
  clear hK K KCM
  iterate 1
    refine wpMix_take (v := ?_) rfl rfl ?_ ?_
    rotate_left
    · (intro W hW; (try dsimp only at hW); go_simp) <;> with_reducible rfl
    simp only [Act.put, List.setIfInBounds_toArray, List.set_cons_zero, List.set_cons_succ]
  refine wpMix_nil ?_
  have HBC := Lib.hid hbc
  clear hbc
  cases bc
  · have hu2 := HU.out _ hb2
    have FIN := Lib.hid (show Upd b (highO R) w _ from by rw [show R = ⟨ok, on, os⟩ from HRR.out.symm.trans (high_stay (by rw [HCC.out]; exact HBC.out))]; exact hu2)
    clear HS HU HC hbd hu2
    go_wp2_with fail
    go_end0
    exact ⟨rfl, FIN.out⟩
  · have HB2 := Lib.hid hb2
    have hu2 := HU.out _ HB2.out
    have hs2 := (HS.out _ HB2.out).1
    have KC := HC.out
    clear HS HU HC hbd
    obtain ⟨q0, q1, q2⟩ := hs2
    go_wp2_with fail
    refine (KC _).mono ?_
    rintro e w3 ⟨rfl, hb3⟩
    have hu3 := hu2.below hb3
    have f0 := free_of_row hu3.2 0
    have f1 := free_of_row hu3.2 1
    have f2 := free_of_row hu3.2 2
    have p0 : w3.cell? ⟨b, 0, none⟩ = some (.int .i64 ok) := by rw [cell_of_row _ _ _ _ _ _ hu3.2]; rfl
    have p1 : w3.cell? ⟨b, 1, none⟩ = some (.int .i64 on) := by rw [cell_of_row _ _ _ _ _ _ hu3.2]; rfl
    have p2 : w3.cell? ⟨b, 2, none⟩ = some (.string os) := by rw [cell_of_row _ _ _ _ _ _ hu3.2]; rfl
    have FIN := Lib.hid (show Upd b (highO R) w _ from by rw [show R = ⟨vk, vn, vs⟩ from HRR.out.symm.trans (high_more (by rw [HCC.out]; exact HBC.out))]; exact (((hu3.set 0 (.int .i64 vk)).set 1 (.int .i64 vn)).set 2 (.string vs)))
    clear hb3 hu3 hu2 KC HB2 q0 q1 q2
    go_wp2_with fail
    go_end0
    exact ⟨rfl, FIN.out⟩

/-- a distinct sketch takes an id -/
theorem take_dis {T : Tags} {i : Nat} {w : World} {b p : Nat} {V : SkV} (h : DisT b p V T i w) (v : VV) (id : Int) :
    Calls Tryz.prog 206 #[.pointer (some ⟨b, 0, none⟩), v.val, .int .i64 id] w fun e w' => e = .returned (.tuple #[]) ∧ Goes T i w (DisT b p (V.ins (wi id))) w' := by
  have hb := below_c w (.cells #[.int .i64 v.k, .int .i64 v.n, .string v.s] 36)
  have h2 := (DisT.framed b p V).below h hb
  have KI := ins_any h2.2 (x := wi id) (wi_lt id)
  have hc : IntKind.u64.wrap id = ((wi id : Nat) : Int) := by unfold wi; rw [IntKind.wrap_u64]; omega
  obtain ⟨u, hu⟩ : ∃ u, wi id = u := ⟨_, rfl⟩
  rw [hu] at KI hc
  rw [hu]
  obtain ⟨W, hW⟩ : ∃ W, w.alloc (.cells #[.int .i64 v.k, .int .i64 v.n, .string v.s] 36) = W := ⟨_, rfl⟩
  rw [hW] at KI h2 hb
  have c0 : W.cell? ⟨b, 0, none⟩ = some (.pointer (some ⟨p, 0, none⟩)) := by rw [cell_of_row _ _ _ _ _ _ h2.1.2]; rfl
  have FIN : Hid (∀ w', Goes T i W (Sk p (V.ins u)) w' → Goes T i w (DisT b p (V.ins u)) w') := Lib.hid fun w' hg => by
    obtain ⟨T', n1, e1, s1⟩ := hg
    refine ⟨T', fun k hk => n1 k (Nat.lt_of_lt_of_le hk hb.size), (Else.of_below hb).trans e1 (fun x hx => .inl hx), ?_, s1⟩
    have hlt := lt_of_heap h2.1.2
    refine ⟨(n1 b hlt).trans h2.1.1, (e1.block b hlt (by rw [h2.1.1]; simp)).trans h2.1.2⟩
  rw [one_val]
  clear h h2 hb hu
  go_enter Tryz.func206, Tryz.ntmps206
  go_wp2_with fail
  refine KI.mono ?_
  rintro e w1 ⟨rfl, hg⟩
  have FI := FIN.out w1 hg
  clear KI hg FIN
  go_wp2_with fail
  go_end0
  exact ⟨rfl, FI⟩
end Go.Proofs.YtlhpbfjelgmkeaaGreat
/- What a measure begins with. Conditions: a measure of kind 1 to 5 of a column that it may be of; good settings. -/
set_option maxRecDepth 100000
namespace Go.Proofs.YtlhpbfjelgmkeaaGreat
open Go.RowKit Go.Maps Go.Sort Go.Lib
open Wide

/-- may a measure be of a column of this kind? (kinds 1 to 5) -/
def okM (mk k : Int) : Prop := (1 ≤ k ∧ k ≤ 4) ∧ (mk = 1 ∨ (mk = 2 ∧ k = 1) ∨ mk = 3 ∨ mk = 4 ∨ mk = 5)
/-- what it keeps of no values -/
def Begun (t : Nat) (S : List (Nat × Nat)) (mk : Int) (s : Sv) : Prop :=
  (mk = 1 ∧ s = .cnt 0) ∨ (mk = 2 ∧ s = .sum 0 0) ∨ (mk = 3 ∧ s = .low VV.none_) ∨ (mk = 4 ∧ s = .high VV.none_) ∨ (mk = 5 ∧ ∃ p, s = .dis p (SkV.empty t S))
section
variable {w0 w : World} {E : List (Nat × Thing)} {j : Nat} {A B : Thing}
theorem side_pair (h : Side w0 ((j, A) :: (j, B) :: E) w) : Side w0 ((j, fun T i w => A T i w ∧ B T i w) :: E) w := by
  obtain ⟨T, h⟩ := h
  have h1 := h.at_ (j, A) (List.mem_cons_self ..)
  have h2 := h.at_ (j, B) (List.mem_cons_of_mem _ (List.mem_cons_self ..))
  refine ⟨T, h.base, h.old, fun e he => ?_⟩
  rcases List.mem_cons.1 he with rfl | he
  · exact ⟨fun T T' i w w' g hT hw => ⟨h1.1 T T' i w w' g.1 hT hw, h2.1 T T' i w w' g.2 hT hw⟩, h1.2, h2.2⟩
  · exact h.at_ e (List.mem_cons_of_mem _ (List.mem_cons_of_mem _ he))
def BegP (w0 : World) (E : List (Nat × Thing)) (j t : Nat) (S : List (Nat × Nat)) (mk : Int) (e : Ending) (w' : World) : Prop := ∃ b s, e = .returned (Sv.val b s) ∧ Begun t S mk s ∧ Hid (Side w0 ((j, StT b s) :: E) w')
set_option maxHeartbeats 1600000 in
theorem begin_any (h : Side w0 E w) (j : Nat) {sa : Option Addr} {n sc : Nat} {S : List (Nat × Nat)} (hs : SetAt w sa n sc S) (t : Nat) (K M : Int) (hg : goodB t S K M = true) (mk k : Int) (hok : okM mk k) :
    Calls Tryz.prog 33 #[.int .i64 mk, .int .i64 k, setV t sa n sc K M] w (BegP w0 E j t S mk) := by
  have hb := below_c w (setO t sa n sc K M)
  have h1 := h.below hb
  have HS := Lib.hid (side_new h1 j (hs.below hb) t K M hg)
  have HO := Lib.hid (fun (ob : Obj) => h1.own j ob)
  have hz : (w.alloc (setO t sa n sc K M)).heap.size = w.heap.size + 1 := by simp
  obtain ⟨P, hP⟩ : ∃ P, BegP w0 E j t S mk = P := ⟨_, rfl⟩
  have F := Lib.hid (fun (b : Nat) (s : Sv) (w' : World) (hB : Begun t S mk s) (hS : Side w0 ((j, StT b s) :: E) w') => (by rw [← hP]; exact ⟨b, s, rfl, hB, Lib.hid hS⟩ : P (.returned (Sv.val b s)) w'))
  rw [hP]
  obtain ⟨⟨k1, k4⟩, hmk⟩ := hok
  have t1 : decide (k < 1) = false := decide_eq_false (by omega)
  have t2 : decide (4 < k) = false := decide_eq_false (by omega)
  unfold setV setO at *
  rw [hz] at HO
  clear h h1 hs hg hz hP hb
  rcases hmk with rfl | ⟨rfl, rfl⟩ | rfl | rfl | rfl
  · have FI := F.out _ (.cnt 0) _ (.inl ⟨rfl, rfl⟩) (HO.out (cntO 0))
    clear F HS HO
    unfold Sv.val cntO at FI
    go_enter Tryz.func33, Tryz.ntmps33
    go_wp2_with fail
    exact FI
  · have FI := F.out _ (.sum 0 0) _ (.inr (.inl ⟨rfl, rfl⟩)) (HO.out (sumO 0 0))
    clear F HS HO
    unfold Sv.val sumO at FI
    rw [show hiW 0 = 0 from rfl, show loW 0 = 0 from rfl] at FI
    go_enter Tryz.func33, Tryz.ntmps33
    go_wp2_with fail
    exact FI
  · have FI := F.out _ (.low VV.none_) _ (.inr (.inr (.inl ⟨rfl, rfl⟩))) (HO.out (lowO VV.none_))
    clear F HS HO
    unfold Sv.val lowO VV.none_ at FI
    go_enter Tryz.func33, Tryz.ntmps33
    go_wp2_with fail
    exact FI
  · have FI := F.out _ (.high VV.none_) _ (.inr (.inr (.inr (.inl ⟨rfl, rfl⟩)))) (HO.out (highO VV.none_))
    clear F HS HO
    unfold Sv.val highO VV.none_ at FI
    go_enter Tryz.func33, Tryz.ntmps33
    go_wp2_with fail
    exact FI
  · clear HO
    go_enter Tryz.func33, Tryz.ntmps33
    go_wp2_with fail
    refine HS.out.mono ?_
    rintro e w1 ⟨p, rfl, hS⟩
    have FI := F.out _ (.dis p (SkV.empty t S)) _ (.inr (.inr (.inr (.inr ⟨rfl, p, rfl⟩)))) (side_pair (hS.out.alloc j (disO p)))
    clear F HS hS
    unfold Sv.val disO at FI
    go_wp2_with fail
    exact FI
end
end Go.Proofs.YtlhpbfjelgmkeaaGreat
/- One struct more behind a row of the call's own. Conditions: none. -/
set_option maxRecDepth 100000
namespace Go.Proofs.YtlhpbfjelgmkeaaGreat
open Go.RowKit Go.Maps Go.Sort

/-- an append of one element whose cells were laid just ahead -/
theorem push_row {P : Program} {t e : TypeId} {z : Value} {size by' : Nat} (ht : P.underlying t = some (.slice e)) (hinfo : (P.info? e).map (fun i => (i.zero, i.size, i.bytes)) = some (some z, size, by')) (hzs : z.cells.size = size) (hsz : 0 < size)
    {w : World} {B : Nat} {v : Value} {n : Nat} {xs : List Value} (hown : w.ownsRow B e size v n xs) (hB : B ≤ w.heap.size) (news : List Value) (hl : news.length = size) (h1 : ∀ u ∈ news, u.oneCell' = true) (hbytes : (n + 1) * by' ≤ 140737488355328) (hn : n + 1 ≤ 9223372036854775807) :
    ∃ v' w', (∀ ty, (Builtin.append_ #[t, t] ty #[v, .slice (some ⟨w.heap.size, 0, none⟩) 1 1]).run P (w.alloc (.cells news.toArray e)) = .ok v' w') ∧
      w'.ownsRow B e size v' (n + 1) (xs ++ news) ∧ w.grownBy w' v.ownBlock ∧ (v'.ownBlock = v.ownBlock ∨ v'.ownBlock = some (w.heap.size + 1)) := by
  obtain ⟨i, hi, hz0, hz1, hz2⟩ := info_parts hinfo
  have hown' : (w.alloc (.cells news.toArray e)).ownsRow B e size v n xs := hown.alloc _
  have hnew : ∀ j u, news[j]? = some u → (w.alloc (.cells news.toArray e)).cell? ((⟨w.heap.size, 0, none⟩ : Addr).add j) = some u := fun j u hj => by
    rw [Addr.add_at, Nat.zero_add, cell_of_row _ _ _ _ _ _ (heap_alloc_new w _)]
    simpa using hj
  obtain ⟨v', w', hr, h2, h3, _, h5⟩ := run_append_own_at (P := P) (w := w.alloc (.cells news.toArray e)) B t 0 e i z size by' ht hi hz0 hz1 hz2 hzs hsz v n xs hown' ⟨w.heap.size, 0, none⟩ 1 1 news (by omega) hnew h1 (by unfold maxLen; omega) hbytes (by simp; omega)
  refine ⟨v', w', fun ty => hr, h2, (World.grownBy_alloc w _ v.ownBlock).andThen h3 (fun j hj => .inr hj), ?_⟩
  rcases h5 with h5 | h5
  · exact .inl h5
  · exact .inr (by simpa using h5)
end Go.Proofs.YtlhpbfjelgmkeaaGreat
/- Slices of structs of two cells, of texts, of columns and measures, in memory. Conditions: none. -/
set_option maxRecDepth 100000
namespace Go.Proofs.YtlhpbfjelgmkeaaGreat
open Go.RowKit Go.Maps Go.Sort

def colC (c : ByteArray × Int) : Value × Value := (.string c.1, .int .i64 c.2)
def meaC (m : Int × ByteArray) : Value × Value := (.int .i64 m.1, .string m.2)
def strs (l : List ByteArray) : List Value := l.map Value.string
theorem strs_len (l : List ByteArray) : (strs l).length = l.length := by simp [strs]
/-- a slice of structs of two cells holds these -/
def Holds2 (w : World) (v : Value) (l : List (Value × Value)) : Prop :=
  ∃ a c, v = .slice a l.length c ∧ l.length ≤ c ∧ ((a = none ∧ l = [] ∧ c = 0) ∨ ∃ ad : Addr, a = some ad ∧ ∀ i x, l[i]? = some x →
    w.cell? (ad.add (i * 2)) = some x.1 ∧ w.cell? ⟨(ad.add (i * 2)).block, (ad.add (i * 2)).off + 1, none⟩ = some x.2)
theorem Holds2.kept {w w' : World} {v : Value} {l : List (Value × Value)} (h : Holds2 w v l) (hc : ∀ (a : Addr) u, w.cell? a = some u → w'.cell? a = some u) : Holds2 w' v l := by
  obtain ⟨a, c, h1, h2, h3⟩ := h
  refine ⟨a, c, h1, h2, ?_⟩
  rcases h3 with h3 | ⟨ad, h3, h4⟩
  · exact .inl h3
  · exact .inr ⟨ad, h3, fun i x hx => ⟨hc _ _ (h4 i x hx).1, hc _ _ (h4 i x hx).2⟩⟩
theorem Holds2.form {w : World} {v : Value} {l : List (Value × Value)} (h : Holds2 w v l) : ∃ a c, v = .slice a l.length c ∧ l.length ≤ c := by
  obtain ⟨a, c, h1, h2, _⟩ := h
  exact ⟨a, c, h1, h2⟩
theorem Holds2.at_ {w : World} {a : Option Addr} {n c : Nat} {l : List (Value × Value)} (h : Holds2 w (.slice a n c) l) {i : Nat} {x : Value × Value} (hx : l[i]? = some x) : ∃ ad : Addr, a = some ad ∧ w.cell? (ad.add (i * 2)) = some x.1 ∧ w.cell? ⟨(ad.add (i * 2)).block, (ad.add (i * 2)).off + 1, none⟩ = some x.2 := by
  obtain ⟨a', c', h1, _, h3⟩ := h
  cases h1
  rcases h3 with ⟨_, e, _⟩ | ⟨ad, h3, h4⟩
  · subst e; simp at hx
  · exact ⟨ad, h3, h4 i x hx⟩
theorem kept_of_below {w w' : World} (hb : Below w.heap.size w w') : ∀ (p : Addr) u, w.cell? p = some u → w'.cell? p = some u := fun p u hp => by rw [hb.cell (World.block_lt_of_cell? w p hp)]; exact hp
theorem Holds2.below {w w' : World} {v : Value} {l : List (Value × Value)} (h : Holds2 w v l) (hb : Below w.heap.size w w') : Holds2 w' v l := h.kept (kept_of_below hb)
/-- cells of structs of two cells -/
def fl2 (ps : List (Value × Value)) : List Value := ps.flatMap fun x => [x.1, x.2]
theorem fl2_at : ∀ (l : List (Value × Value)) (i : Nat) (x : Value × Value), l[i]? = some x → (fl2 l)[i * 2]? = some x.1 ∧ (fl2 l)[i * 2 + 1]? = some x.2
  | [], i, x, h => by simp at h
  | q :: r, 0, x, h => by
    simp at h
    subst h
    simp [fl2]
  | q :: r, i + 1, x, h => by
    have := fl2_at r i x (by simpa using h)
    unfold fl2 at this ⊢
    rw [List.flatMap_cons, show (i + 1) * 2 = i * 2 + 2 by omega, show i * 2 + 2 + 1 = (i * 2 + 1) + 2 by omega]
    exact this
/-- a new block of structs of two cells -/
theorem holds2_new (w : World) (T : TypeId) (l : List (Value × Value)) (n : Nat) (hn : l.length = n) (cs : Array Value) (hc : cs.toList = fl2 l) : Holds2 (w.alloc (.cells cs T)) (.slice (some ⟨w.heap.size, 0, none⟩) n n) l := by
  subst hn
  refine ⟨_, _, rfl, Nat.le_refl _, .inr ⟨_, rfl, fun i x hx => ?_⟩⟩
  obtain ⟨a0, a1⟩ := fl2_at l i x hx
  have hb : (w.alloc (.cells cs T)).heap[w.heap.size]? = some (.cells cs T (0, 0)) := heap_alloc_new w _
  rw [Addr.add_at, Nat.zero_add, cell_of_row _ _ _ _ _ _ hb, cell_of_row _ _ _ _ _ _ hb, ← Array.getElem?_toList, ← Array.getElem?_toList, hc]
  exact ⟨a0, a1⟩
end Go.Proofs.YtlhpbfjelgmkeaaGreat
