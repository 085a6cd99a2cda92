/- The texts CelG CelQ CelR CelF CelH CelS CelT CelU, one behind the other; each one's own comment says what it holds. -/
import Derived.Test.YtlhpbfjelgmkeaaGreatCellCopiesRowGI
import Derived.Test.YtlhpbfjelgmkeaaGreatCellCopiesRowGD
import Derived.BigQuiet
/- A measure takes a value, whichever state it has: one form for the call through the interface. Conditions: few values; values of kinds. -/
set_option maxRecDepth 100000
namespace Go.Proofs.YtlhpbfjelgmkeaaGreat
open Go.RowKit Go.Maps Go.Sort Go.Lib
open Wide

/-- a function's number that is entered when it is called -/
def EntC (f : Nat) : Prop := ∀ (args : Array Value) (W : World), (callFunc f args).run Tryz.prog W = .ok (.enter f args) W
theorem entC_of {f : Nat} {fn : Func} (hf : Tryz.prog.funcs[f]? = some fn) (hname : (fn.name == "runtime.NumGoroutine") = false) {c : Code} (hb : fn.body = some c) : EntC f := fun args W => by
  have h1 : fn.name ≠ "runtime.NumGoroutine" := by simpa using hname
  simp [callFunc, hf, h1, hb]
def takeS (v : VV) (id : Int) : Sv → Sv
  | .cnt n => .cnt (n + 1)
  | .sum N n => .sum (N + v.n) (n + 1)
  | .low o => .low (lowV o v)
  | .high o => .high (highV o v)
  | .dis p V => .dis p (V.ins (wi id))
  | .qua kd p k n => .qua kd p k (n + 1)
  | .top p m n => .top p m (n + 1)
/-- what is kept of at most m values -/
def smallS (m : Nat) : Sv → Prop
  | .cnt n => n ≤ m
  | .sum N n => n ≤ m ∧ -((m : Int) * 9223372036854775808) ≤ N ∧ N ≤ (m : Int) * 9223372036854775808
  | .low o => o.fine
  | .high o => o.fine
  | .dis _ _ => True
  | .qua kd _ _ n => n ≤ m ∧ (kd = 1 ∨ kd = 2)
  | .top _ _ n => n ≤ m
theorem small_fit {m : Nat} {N : Int} (hm : m ≤ 1099511627776) (h : -((m : Int) * 9223372036854775808) ≤ N ∧ N ≤ (m : Int) * 9223372036854775808) : fitW N = true := fit_iff.2 (by omega)
theorem small_take {m : Nat} {v : VV} {id : Int} (hv : v.fine) : ∀ {s : Sv}, smallS m s → smallS (m + 1) (takeS v id s)
  | .cnt n, h => by unfold smallS takeS at *; omega
  | .sum N n, h => by
    unfold smallS takeS at *
    have := hv.2
    refine ⟨by omega, ?_, ?_⟩
    · simp only [Int.natCast_add, Int.add_mul]; omega
    · simp only [Int.natCast_add, Int.add_mul]; omega
  | .low o, h => show (lowV o v).fine by
    unfold lowV
    split
    · exact hv
    · split
      · exact hv
      · exact h
  | .high o, h => show (highV o v).fine by
    unfold highV
    split
    · exact hv
    · exact h
  | .dis _ _, _ => trivial
  | .qua _ _ _ n, h => ⟨Nat.succ_le_succ h.1, h.2⟩
  | .top _ _ n, h => Nat.succ_le_succ h
theorem small_begun {t : Nat} {S : List (Nat × Nat)} {K M mk k : Int} {s : Sv} (hk : okM mk k) (h : Begun t S K M mk k s) : smallS 0 s := by
  rcases h with ⟨_, rfl⟩ | ⟨_, rfl⟩ | ⟨_, rfl⟩ | ⟨_, rfl⟩ | ⟨_, p, rfl⟩ | ⟨e, p, rfl⟩ | ⟨_, p, rfl⟩
  · exact Nat.le_refl _
  · exact ⟨Nat.le_refl _, by decide, by decide⟩
  · exact ⟨by decide, by decide, by decide⟩
  · exact ⟨by decide, by decide, by decide⟩
  · trivial
  · exact ⟨Nat.le_refl _, by unfold okM at hk; omega⟩
  · exact Nat.le_refl _
/-- the call of take, in letters -/
structure TakeC (b : Nat) (s : Sv) (ty f : Nat) : Prop where
  val : Sv.val b s = .iface ty (.pointer (some ⟨b, 0, none⟩))
  meth : ∀ w, (method 501 ty (.pointer (some ⟨b, 0, none⟩)) "talus/cell.take").run Tryz.prog w = .ok (f, .pointer (some ⟨b, 0, none⟩)) w
  ent : EntC f
  call : ∀ {w0 w : World} {E : List (Nat × Thing)} {j m : Nat} {v : VV} {id : Int}, Side w0 ((j, StT b s) :: E) w → (∀ e ∈ E, e.1 ≠ j) → smallS m s → m ≤ 1000000 → v.fine → (-9223372036854775808 ≤ id ∧ id < 9223372036854775808) →
    Calls Tryz.prog f #[.pointer (some ⟨b, 0, none⟩), v.val, .int .i64 id] w fun e w' => e = .returned (.tuple #[]) ∧ Hid (Side w0 ((j, StT b (takeS v id s)) :: E) w')
theorem take_call (b : Nat) (s : Sv) : ∃ ty f, TakeC b s ty f := by
  cases s with
  | cnt n => exact ⟨_, _, rfl, fun w => m_count_take _ w, entC_of Tryz.func194 (by kernel_rfl) rfl, fun {w0 w E j m v id} h hi hs hm _ _ =>
      (take_cnt (h.heapO (List.mem_cons_self ..)) (by unfold smallS at hs; omega) v id).mono fun _ _ ⟨a, u⟩ => ⟨a, Lib.hid (side_upd h hi u)⟩⟩
  | sum N n => exact ⟨_, _, rfl, fun w => m_sum_take _ w, entC_of Tryz.func196 (by kernel_rfl) rfl, fun {w0 w E j m v id} h hi hs hm hv _ =>
      (take_sum (h.heapO (List.mem_cons_self ..)) (small_fit (by omega) hs.2) v hv.2 (by have := hs.2; have := hv.2; rw [fit_iff]; omega) (by have := hs.1; omega) id).mono fun _ _ ⟨a, u⟩ => ⟨a, Lib.hid (side_upd h hi u)⟩⟩
  | low o => exact ⟨_, _, rfl, fun w => m_least_take _ w, entC_of Tryz.func202 (by kernel_rfl) rfl, fun {w0 w E j m v id} h hi hs hm hv _ =>
      (take_low (h.heapO (List.mem_cons_self ..)) hs v hv id).mono fun _ _ ⟨a, u⟩ => ⟨a, Lib.hid (side_upd h hi u)⟩⟩
  | high o => exact ⟨_, _, rfl, fun w => m_greatest_take _ w, entC_of Tryz.func204 (by kernel_rfl) rfl, fun {w0 w E j m v id} h hi hs hm hv _ =>
      (take_high (h.heapO (List.mem_cons_self ..)) hs v hv id).mono fun _ _ ⟨a, u⟩ => ⟨a, Lib.hid (side_upd h hi u)⟩⟩
  | dis p V => exact ⟨_, _, rfl, fun w => m_distinct_take _ w, entC_of Tryz.func206 (by kernel_rfl) rfl, fun {w0 w E j m v id} h hi hs hm hv _ =>
      (h.step hi (DisT.framed b p _) (Pr := fun e => e = .returned (.tuple #[])) fun _ _ hA => take_dis (hA _ (List.mem_cons_self ..)) v id).mono fun _ _ ⟨a, u⟩ => ⟨a, Lib.hid u⟩⟩
  | qua kd p k n => exact ⟨_, _, rfl, fun w => m_quantile_take _ w, entC_of Tryz.func223 (by kernel_rfl) rfl, fun {w0 w E j m v id} h hi hs hm hv _ =>
      (h.step hi (QuaT.framed b kd p k (n + 1)) (Pr := fun e => e = .returned (.tuple #[])) fun _ _ hA => take_qua (hA _ (List.mem_cons_self ..)) hs.2 (by have := hs.1; omega) v hv.2 id).mono fun _ _ ⟨a, u⟩ => ⟨a, Lib.hid u⟩⟩
  | top p m' n => exact ⟨_, _, rfl, fun w => m_top_take _ w, entC_of Tryz.func276 (by kernel_rfl) rfl, fun {w0 w E j m v id} h hi hs hm hv hid =>
      (h.step hi (TopT.framed b p m' (n + 1)) (Pr := fun e => e = .returned (.tuple #[])) fun _ _ hA => take_top (hA _ (List.mem_cons_self ..)) (by have h1 : n ≤ m := hs; omega) v id hid).mono fun _ _ ⟨a, u⟩ => ⟨a, Lib.hid u⟩⟩
end Go.Proofs.YtlhpbfjelgmkeaaGreat
/- What a measure keeps, of two states: merging, whichever state it has. Conditions: few values. -/
set_option maxRecDepth 100000
namespace Go.Proofs.YtlhpbfjelgmkeaaGreat
open Go.RowKit Go.Maps Go.Sort Go.Lib
open Wide

theorem mrg_cnt {w : World} {b c n m : Nat} (h : w.heap[b]? = some (cntO n)) (h' : w.heap[c]? = some (cntO m)) (hn : n + m ≤ 1099511627776) :
    Calls Tryz.prog 193 #[.pointer (some ⟨b, 0, none⟩), Sv.val c (.cnt m)] w fun e w' => e = .returned (.tuple #[]) ∧ Upd b (cntO (n + m)) w w' := by
  have hu := Upd.start h (below_drew1 w)
  have C1 : w.drew.cell? ⟨b, 0, none⟩ = some (.int .i64 (n : Int)) ∧ w.drew.cell? ⟨c, 0, none⟩ = some (.int .i64 (m : Int)) := ⟨by rw [cell_of_row _ _ _ _ _ _ hu.2]; rfl, by show w.cell? _ = _; rw [cell_of_row _ _ _ _ _ _ h']; rfl⟩
  have f0 := free_of_row hu.2 0
  have KP := cplus_any n m (by omega) w.drew
  have FIN := Lib.hid (show Upd b (cntO (n + m)) w (w.drew.setCell ⟨b, 0, none⟩ (.int .i64 ((n + m : Nat) : Int))) from hu.set 0 _)
  obtain ⟨s, hs⟩ : ∃ s, n + m = s := ⟨_, rfl⟩
  rw [hs] at KP FIN ⊢
  have KA := as_count_count
  unfold Sv.val
  simp only
  clear h h' hu hn hs
  go_enter Tryz.func193, Tryz.ntmps193
  go_upto_region 2 with (fail)
  refine wp_region_mix (fun V => V.cell? ⟨b, 0, none⟩ = some (.int .i64 (n : Int)) ∧ V.cell? ⟨c, 0, none⟩ = some (.int .i64 (m : Int))) 12 [(true, 0), (true, 1), (true, 2), (true, 3), (true, 4), (true, 5), (true, 6), (true, 7), (true, 8), (false, 9), (true, 10), (true, 11), (false, 12)] (by kernel_rfl) (by decide +kernel) rfl (by decide +kernel) C1 ?_
  iterate 9
    refine wpMix_take (v := ?_) rfl rfl ?_ ?_
    rotate_left
    · (intro W hW; (try dsimp only at hW); go_simp) <;> with_reducible rfl
    simp only [Act.put, List.setIfInBounds_toArray, List.set_cons_zero, List.set_cons_succ]
  refine wpMix_run rfl ?_
  intro K' hK'
  go_wp2_with fail
  refine KP.mono ?_
  rintro e w' ⟨rfl, rfl⟩
  go_wp2_with fail
  refine hK'.out _ _ (fun _ => C1) ?_
  clear hK' K' KP
  iterate 2
    refine wpMix_take (v := ?_) rfl rfl ?_ ?_
    rotate_left
    · (intro W hW; (try dsimp only at hW); go_simp) <;> with_reducible rfl
    simp only [Act.put, List.setIfInBounds_toArray, List.set_cons_zero, List.set_cons_succ]
  obtain ⟨c0, _⟩ := C1
  refine wpMix_run rfl ?_
  intro K' hK'
  go_wp2_with fail
  refine hK'.out _ _ (fun h => absurd rfl h) ?_
  clear hK' K'
  refine wpMix_nil ?_
  go_wp2_with fail
  go_end0
  exact ⟨rfl, FIN.out⟩
theorem mrg_sum {w : World} {b c n m : Nat} {N M : Int} (h : w.heap[b]? = some (sumO N n)) (h' : w.heap[c]? = some (sumO M m)) (hN : fitW N = true) (hM : fitW M = true) (hs : fitW (N + M) = true) (hn : n + m ≤ 1099511627776) :
    Calls Tryz.prog 195 #[.pointer (some ⟨b, 0, none⟩), Sv.val c (.sum M m)] w fun e w' => e = .returned (.tuple #[]) ∧ Upd b (sumO (N + M) (n + m)) w w' := by
  have hu := Upd.start h (below_drew1 w)
  have KS := add_sum hu.2 hN hM hs m (by omega)
  have HU := Lib.hid hu
  have g' : w.drew.heap[c]? = some (sumO M m) := h'
  obtain ⟨x, y, ex, ey⟩ : ∃ x y, hiW M = x ∧ loW M = y := ⟨_, _, rfl, rfl⟩
  unfold wv at KS
  rw [ex, ey] at KS
  unfold sumO at g'
  rw [ex, ey] at g'
  have C1 : w.drew.cell? ⟨c, 0, none⟩ = some (.int .i64 x) ∧ w.drew.cell? ⟨c, 1, none⟩ = some (.int .u64 y) ∧ w.drew.cell? ⟨c, 2, none⟩ = some (.int .i64 (m : Int)) := ⟨by rw [cell_of_row _ _ _ _ _ _ g']; rfl, by rw [cell_of_row _ _ _ _ _ _ g']; rfl, by rw [cell_of_row _ _ _ _ _ _ g']; rfl⟩
  have KA := as_sum_sum
  unfold Sv.val
  simp only
  clear h h' hu g' hN hM hs hn ex ey
  go_enter Tryz.func195, Tryz.ntmps195
  go_upto_region 2 with (fail)
  refine wp_region_mix (fun V => V.cell? ⟨c, 0, none⟩ = some (.int .i64 x) ∧ V.cell? ⟨c, 1, none⟩ = some (.int .u64 y) ∧ V.cell? ⟨c, 2, none⟩ = some (.int .i64 (m : Int))) 9 [(true, 0), (true, 1), (true, 2), (true, 3), (true, 4), (true, 5), (true, 6), (true, 7), (true, 8), (false, 9)] (by kernel_rfl) (by decide +kernel) rfl (by decide +kernel) C1 ?_
  iterate 9
    refine wpMix_take (v := ?_) rfl rfl ?_ ?_
    rotate_left
    · (intro W hW; (try dsimp only at hW); go_simp) <;> with_reducible rfl
    simp only [Act.put, List.setIfInBounds_toArray, List.set_cons_zero, List.set_cons_succ]
  refine wpMix_run rfl ?_
  intro K' hK'
  go_wp2_with fail
  refine KS.mono ?_
  rintro e w' ⟨rfl, hu2⟩
  have FIN := Lib.hid (HU.out.trans hu2)
  clear hu2 KS HU
  go_wp2_with fail
  refine hK'.out _ _ (fun h => absurd rfl h) ?_
  clear hK' K' C1
  refine wpMix_nil ?_
  go_wp2_with fail
  go_end0
  exact ⟨rfl, FIN.out⟩
theorem mrg_low {w : World} {b c : Nat} {o v : VV} (h : w.heap[b]? = some (lowO o)) (h' : w.heap[c]? = some (lowO v)) (ho : o.fine) (hv : v.fine) :
    Calls Tryz.prog 201 #[.pointer (some ⟨b, 0, none⟩), Sv.val c (.low v)] w fun e w' => e = .returned (.tuple #[]) ∧ Upd b (lowO (if (v.k == 0) = true then o else lowV o v)) w w' := by
  have KT := take_low h ho v hv 0
  have hu := Upd.start h (Below.refl _ w)
  have KA := as_least_least
  obtain ⟨R, hR⟩ : ∃ R, lowV o v = R := ⟨_, rfl⟩
  rw [hR] at KT ⊢
  obtain ⟨vk, vn, vs⟩ := v
  rw [one_val] at KT
  unfold lowO at h'
  simp only at h' KT ⊢
  have c0 : w.cell? ⟨c, 0, none⟩ = some (.int .i64 vk) := by rw [cell_of_row _ _ _ _ _ _ h']; rfl
  have c1 : w.cell? ⟨c, 1, none⟩ = some (.int .i64 vn) := by rw [cell_of_row _ _ _ _ _ _ h']; rfl
  have c2 : w.cell? ⟨c, 2, none⟩ = some (.string vs) := by rw [cell_of_row _ _ _ _ _ _ h']; rfl
  unfold Sv.val
  simp only
  have HU := Lib.hid hu
  clear h h' hu ho hv hR
  by_cases hz : vk = 0
  · have e1 : (vk == 0) = true := by simpa using hz
    have e2 : (vk != 0) = false := by simp [hz]
    rw [if_pos e1]
    clear hz KT
    go_enter Tryz.func201, Tryz.ntmps201
    go_wp2_with fail
    go_end0
    exact ⟨rfl, HU.out⟩
  · have e1 : (vk == 0) = false := by simpa using hz
    have e2 : (vk != 0) = true := by simp [hz]
    rw [if_neg (by rw [e1]; simp)]
    clear hz HU
    go_enter Tryz.func201, Tryz.ntmps201
    go_wp2_with fail
    refine KT.mono ?_
    rintro e w' ⟨rfl, hu2⟩
    have FIN := Lib.hid hu2
    clear KT hu2
    go_wp2_with fail
    go_end0
    exact ⟨rfl, FIN.out⟩
theorem mrg_high {w : World} {b c : Nat} {o v : VV} (h : w.heap[b]? = some (highO o)) (h' : w.heap[c]? = some (highO v)) (ho : o.fine) (hv : v.fine) :
    Calls Tryz.prog 203 #[.pointer (some ⟨b, 0, none⟩), Sv.val c (.high v)] w fun e w' => e = .returned (.tuple #[]) ∧ Upd b (highO (highV o v)) w w' := by
  have KT := take_high h ho v hv 0
  have KA := as_greatest_greatest
  obtain ⟨R, hR⟩ : ∃ R, highV o v = R := ⟨_, rfl⟩
  rw [hR] at KT ⊢
  obtain ⟨vk, vn, vs⟩ := v
  rw [one_val] at KT
  unfold highO at h'
  simp only at h' KT ⊢
  have c0 : w.cell? ⟨c, 0, none⟩ = some (.int .i64 vk) := by rw [cell_of_row _ _ _ _ _ _ h']; rfl
  have c1 : w.cell? ⟨c, 1, none⟩ = some (.int .i64 vn) := by rw [cell_of_row _ _ _ _ _ _ h']; rfl
  have c2 : w.cell? ⟨c, 2, none⟩ = some (.string vs) := by rw [cell_of_row _ _ _ _ _ _ h']; rfl
  unfold Sv.val
  simp only
  clear h h' ho hv hR
  go_enter Tryz.func203, Tryz.ntmps203
  go_wp2_with fail
  refine KT.mono ?_
  rintro e w' ⟨rfl, hu2⟩
  have FIN := Lib.hid hu2
  clear KT hu2
  go_wp2_with fail
  go_end0
  exact ⟨rfl, FIN.out⟩
end Go.Proofs.YtlhpbfjelgmkeaaGreat
/- A measure is merged with another one, whichever state it has: one form for the call through the interface. Conditions: few values. -/
set_option maxRecDepth 100000
namespace Go.Proofs.YtlhpbfjelgmkeaaGreat
open Go.RowKit Go.Maps Go.Sort Go.Lib
open Wide

theorem mrg_dis {T : Tags} {i j : Nat} {w : World} {b c p q : Nat} {V U : SkV} (h : DisT b p V T i w) (g : DisT c q U T j w) (hij : i ≠ j) (ht : U.t = V.t) (hS : U.seeds = V.seeds) :
    Calls Tryz.prog 205 #[.pointer (some ⟨b, 0, none⟩), Sv.val c (.dis q U)] w fun e w' => e = .returned (.tuple #[]) ∧ Goes T i w (DisT b p (V.merge U)) w' := by
  have hb := below_drew1 w
  have h2 := (DisT.framed b p V).below h hb
  have g2 := (DisT.framed c q U).below g hb
  have KM := merge_two h2.2 g2.2 hij ht hS
  have C1 : w.drew.cell? ⟨b, 0, none⟩ = some (.pointer (some ⟨p, 0, none⟩)) ∧ w.drew.cell? ⟨c, 0, none⟩ = some (.pointer (some ⟨q, 0, none⟩)) := ⟨by rw [cell_of_row _ _ _ _ _ _ h2.1.2]; rfl, by rw [cell_of_row _ _ _ _ _ _ g2.1.2]; rfl⟩
  have FIN : Hid (∀ w', Goes T i w.drew (Sk p (V.merge U)) w' → Goes T i w (DisT b p (V.merge U)) w') := Lib.hid fun w' hg => by
    obtain ⟨T', n1, e1, s1⟩ := hg
    refine ⟨T', n1, (Else.of_below hb).trans e1 (fun x hx => .inl hx), ?_, s1⟩
    have hlt := lt_of_heap h2.1.2
    exact ⟨(n1 b hlt).trans h2.1.1, (e1.block b hlt (by rw [h2.1.1]; simp)).trans h2.1.2⟩
  have KA := as_distinct_distinct
  unfold Sv.val
  simp only
  clear h g h2 g2 hb hij ht hS
  go_enter Tryz.func205, Tryz.ntmps205
  go_upto_region 2 with (fail)
  refine wp_region_mix (fun V => V.cell? ⟨b, 0, none⟩ = some (.pointer (some ⟨p, 0, none⟩)) ∧ V.cell? ⟨c, 0, none⟩ = some (.pointer (some ⟨q, 0, none⟩))) 8 [(true, 0), (true, 1), (true, 2), (true, 3), (true, 4), (true, 5), (true, 6), (true, 7), (false, 8)] (by kernel_rfl) (by decide +kernel) rfl (by decide +kernel) C1 ?_
  iterate 8
    refine wpMix_take (v := ?_) rfl rfl ?_ ?_
    rotate_left
    · (intro W hW; (try dsimp only at hW); go_simp) <;> with_reducible rfl
    simp only [Act.put, List.setIfInBounds_toArray, List.set_cons_zero, List.set_cons_succ]
  refine wpMix_run rfl ?_
  intro K' hK'
  go_wp2_with fail
  refine KM.mono ?_
  rintro e w' ⟨rfl, hg⟩
  have FI := Lib.hid (FIN.out w' hg)
  clear hg KM FIN
  go_wp2_with fail
  refine hK'.out _ _ (fun h => absurd rfl h) ?_
  clear hK' K' C1
  refine wpMix_nil ?_
  go_wp2_with fail
  go_end0
  exact ⟨rfl, FI.out⟩
/-- two states of one measure -/
def alikeS : Sv → Sv → Prop
  | .cnt _, .cnt _ => True
  | .sum _ _, .sum _ _ => True
  | .low _, .low _ => True
  | .high _, .high _ => True
  | .dis _ V, .dis _ U => U.t = V.t ∧ U.seeds = V.seeds
  | .qua kd _ k _, .qua kd' _ k' _ => kd' = kd ∧ k' = k
  | .top _ m _, .top _ m' _ => m' = m
  | _, _ => False
def mrgS : Sv → Sv → Sv
  | .cnt n, .cnt m => .cnt (n + m)
  | .sum N n, .sum M m => .sum (N + M) (n + m)
  | .low o, .low v => .low (if (v.k == 0) = true then o else lowV o v)
  | .high o, .high v => .high (highV o v)
  | .dis p V, .dis _ U => .dis p (V.merge U)
  | .qua kd p k n, .qua _ _ _ n' => .qua kd p k (n + n')
  | .top p m n, .top _ _ n' => .top p m (n + n')
  | s, _ => s
theorem mrg_val (b : Nat) (s s' : Sv) : Sv.val b (mrgS s s') = Sv.val b s := by cases s <;> cases s' <;> rfl
theorem small_mrg {m n : Nat} : ∀ {s s' : Sv}, alikeS s s' → smallS m s → smallS n s' → smallS (m + n) (mrgS s s')
  | .cnt _, .cnt _, _, h, h' => by unfold smallS mrgS at *; omega
  | .sum _ _, .sum _ _, _, h, h' => by
    unfold smallS mrgS at *
    refine ⟨by omega, ?_, ?_⟩
    · simp only [Int.natCast_add, Int.add_mul]; omega
    · simp only [Int.natCast_add, Int.add_mul]; omega
  | .low o, .low v, _, h, h' => show (if (v.k == 0) = true then o else lowV o v).fine by
    have h1 : o.fine := h
    have h2 : v.fine := h'
    unfold lowV
    split
    · exact h1
    · split
      · exact h2
      · split
        · exact h2
        · exact h1
  | .high o, .high v, _, h, h' => show (highV o v).fine by
    have h1 : o.fine := h
    have h2 : v.fine := h'
    unfold highV
    split
    · exact h2
    · exact h1
  | .dis _ _, .dis _ _, _, _, _ => trivial
  | .qua _ _ _ _, .qua _ _ _ _, _, h, h' => ⟨Nat.add_le_add h.1 h'.1, h.2⟩
  | .top _ _ _, .top _ _ _, _, h, h' => Nat.add_le_add h h'
/-- the call of merge, in letters -/
structure MrgC (b : Nat) (s : Sv) (ty f : Nat) : Prop where
  val : Sv.val b s = .iface ty (.pointer (some ⟨b, 0, none⟩))
  meth : ∀ w, (method 501 ty (.pointer (some ⟨b, 0, none⟩)) "talus/cell.merge").run Tryz.prog w = .ok (f, .pointer (some ⟨b, 0, none⟩)) w
  ahead : ∀ w, (nilAhead 501 ty (.pointer (some ⟨b, 0, none⟩)) "talus/cell.merge").run Tryz.prog w = .ok (some false) w
  ent : EntC f
  call : ∀ {w0 w : World} {E : List (Nat × Thing)} {j j' c m n : Nat} {s' : Sv}, Side w0 ((j, StT b s) :: E) w → (∀ e ∈ E, e.1 ≠ j) → (j', StT c s') ∈ E → alikeS s s' → smallS m s → smallS n s' → m + n ≤ 1000000 →
    Calls Tryz.prog f #[.pointer (some ⟨b, 0, none⟩), Sv.val c s'] w fun e w' => e = .returned (.tuple #[]) ∧ Hid (Side w0 ((j, StT b (mrgS s s')) :: E) w')
theorem mrg_call (b : Nat) (s : Sv) : ∃ ty f, MrgC b s ty f := by
  cases s with
  | cnt n => exact ⟨_, _, rfl, fun w => m_count_merge _ w, fun _ => by kernel_rfl, entC_of Tryz.func193 (by kernel_rfl) rfl, fun {w0 w E j j' c m k s'} h hi hx ha hs hs' hm => by
      cases s' with
      | cnt n' => exact (mrg_cnt (h.heapO (List.mem_cons_self ..)) (h.heapO (List.mem_cons_of_mem _ hx)) (by have h1 : n ≤ m := hs; have h2 : n' ≤ k := hs'; omega)).mono fun _ _ ⟨a, u⟩ => ⟨a, Lib.hid (side_upd h hi u)⟩
      | _ => exact ha.elim⟩
  | sum N n => exact ⟨_, _, rfl, fun w => m_sum_merge _ w, fun _ => by kernel_rfl, entC_of Tryz.func195 (by kernel_rfl) rfl, fun {w0 w E j j' c m k s'} h hi hx ha hs hs' hm => by
      cases s' with
      | sum M n' => exact (mrg_sum (h.heapO (List.mem_cons_self ..)) (h.heapO (List.mem_cons_of_mem _ hx)) (small_fit (by omega) hs.2) (small_fit (by omega) hs'.2) (by have h1 := hs.2; have h2 := hs'.2; rw [fit_iff]; omega) (by have h1 := hs.1; have h2 := hs'.1; omega)).mono fun _ _ ⟨a, u⟩ => ⟨a, Lib.hid (side_upd h hi u)⟩
      | _ => exact ha.elim⟩
  | low o => exact ⟨_, _, rfl, fun w => m_least_merge _ w, fun _ => by kernel_rfl, entC_of Tryz.func201 (by kernel_rfl) rfl, fun {w0 w E j j' c m k s'} h hi hx ha hs hs' hm => by
      cases s' with
      | low v => exact (mrg_low (h.heapO (List.mem_cons_self ..)) (h.heapO (List.mem_cons_of_mem _ hx)) hs hs').mono fun _ _ ⟨a, u⟩ => ⟨a, Lib.hid (side_upd h hi u)⟩
      | _ => exact ha.elim⟩
  | high o => exact ⟨_, _, rfl, fun w => m_greatest_merge _ w, fun _ => by kernel_rfl, entC_of Tryz.func203 (by kernel_rfl) rfl, fun {w0 w E j j' c m k s'} h hi hx ha hs hs' hm => by
      cases s' with
      | high v => exact (mrg_high (h.heapO (List.mem_cons_self ..)) (h.heapO (List.mem_cons_of_mem _ hx)) hs hs').mono fun _ _ ⟨a, u⟩ => ⟨a, Lib.hid (side_upd h hi u)⟩
      | _ => exact ha.elim⟩
  | dis p V => exact ⟨_, _, rfl, fun w => m_distinct_merge _ w, fun _ => by kernel_rfl, entC_of Tryz.func205 (by kernel_rfl) rfl, fun {w0 w E j j' c m k s'} h hi hx ha hs hs' hm => by
      cases s' with
      | dis q U => exact (h.step hi (DisT.framed b p _) (Pr := fun e => e = .returned (.tuple #[])) fun _ _ hA => mrg_dis (hA _ (List.mem_cons_self ..)) (hA _ (List.mem_cons_of_mem _ hx)) (fun e => hi _ hx e.symm) ha.1 ha.2).mono fun _ _ ⟨a, u⟩ => ⟨a, Lib.hid u⟩
      | _ => exact ha.elim⟩
  | qua kd p k n => exact ⟨_, _, rfl, fun w => m_quantile_merge _ w, fun _ => by kernel_rfl, entC_of Tryz.func222 (by kernel_rfl) rfl, fun {w0 w E j j' c m k' s'} h hi hx ha hs hs' hm => by
      cases s' with
      | qua kd' q k2 n' =>
        obtain ⟨rfl, rfl⟩ := ha
        exact (h.step hi (QuaT.framed b _ p _ (n + n')) (Pr := fun e => e = .returned (.tuple #[])) fun _ _ hA => mrg_qua (hA _ (List.mem_cons_self ..)) (hA _ (List.mem_cons_of_mem _ hx)) (fun e => hi _ hx e.symm) (by have h1 := hs.1; have h2 := hs'.1; omega)).mono fun _ _ ⟨a, u⟩ => ⟨a, Lib.hid u⟩
      | _ => exact ha.elim⟩
  | top p m0 n => exact ⟨_, _, rfl, fun w => m_top_merge _ w, fun _ => by kernel_rfl, entC_of Tryz.func275 (by kernel_rfl) rfl, fun {w0 w E j j' c m k' s'} h hi hx ha hs hs' hm => by
      cases s' with
      | top q m2 n' =>
        obtain rfl := ha
        exact (h.step hi (TopT.framed b p _ (n + n')) (Pr := fun e => e = .returned (.tuple #[])) fun _ _ hA => mrg_top (hA _ (List.mem_cons_self ..)) (hA _ (List.mem_cons_of_mem _ hx)) (fun e => hi _ hx e.symm) (by have h1 : n ≤ m := hs; have h2 : n' ≤ k' := hs'; omega)).mono fun _ _ ⟨a, u⟩ => ⟨a, Lib.hid u⟩
      | _ => exact ha.elim⟩
end Go.Proofs.YtlhpbfjelgmkeaaGreat
/- New of measures of kinds 1 to 5. Conditions: as many kinds as measures, at most 16, each may be; good settings; short names. -/
set_option maxRecDepth 100000
namespace Go.Proofs.YtlhpbfjelgmkeaaGreat
open Go.RowKit Go.Maps Go.Sort Go.Lib

/-- how far New is -/
structure NewC (ms : List (Int × ByteArray)) (ks : List Int) (t : Nat) (S : List (Nat × Nat)) (K M : Int) (k : Nat) (C : Cv) : Prop where
  ems : C.ms = ms.take k
  eks : C.ks = ks
  et : C.t = t
  eS : C.S = S
  eK : C.K = K
  eM : C.M = M
  erows : C.rows = 0
  elen : C.st.length = k
  est : ∀ (j : Nat) m k s, ms[j]? = some m → ks[j]? = some k → C.st[j]? = some s → Begun t S K M m.1 k s.2
def tagsOff (i : Nat) (E : List (Nat × Thing)) : Prop := ∀ e ∈ E, e.1 < i ∨ i + 100 ≤ e.1
theorem cell_tags {i q : Nat} {L : Lay} {C : Cv} (hl : C.st.length ≤ 16) : ∀ e ∈ cellE i q L C, i ≤ e.1 ∧ e.1 < i + 21 := fun e he => by
  unfold cellE at he
  rcases List.mem_cons.1 he with rfl | he
  · exact ⟨Nat.le_refl _, by omega⟩
  rcases List.mem_cons.1 he with rfl | he
  · exact ⟨by simp, by simp⟩
  rcases List.mem_cons.1 he with rfl | he
  · exact ⟨by simp, by simp⟩
  rcases List.mem_cons.1 he with rfl | he
  · exact ⟨by simp, by simp⟩
  rcases List.mem_cons.1 he with rfl | he
  · exact ⟨by simp, by simp⟩
  have := stE_mem _ _ _ he
  omega
def NewP (w0 : World) (E : List (Nat × Thing)) (i : Nat) (ms : List (Int × ByteArray)) (ks : List Int) (t : Nat) (S : List (Nat × Nat)) (K M : Int) (e : Ending) (w' : World) : Prop :=
  ∃ q L C, e = .returned (.pointer (some ⟨q, 0, none⟩)) ∧ NewC ms ks t S K M ms.length C ∧ Hid (Side w0 (cellE i q L C ++ E) w')
theorem set_cells {W : World} {b : Nat} {t K M : Int} {sa : Option Addr} {n c : Nat} (h : W.heap[b]? = some (setO t sa n c K M)) :
    W.cell? ⟨b, 0, none⟩ = some (.int .i64 t) ∧ W.cell? ⟨b, 1, none⟩ = some (.slice sa n c) ∧ W.cell? ⟨b, 2, none⟩ = some (.int .i64 K) ∧ W.cell? ⟨b, 3, none⟩ = some (.int .i64 M) :=
  ⟨by rw [cell_of_row _ _ _ _ _ _ h]; rfl, by rw [cell_of_row _ _ _ _ _ _ h]; rfl, by rw [cell_of_row _ _ _ _ _ _ h]; rfl, by rw [cell_of_row _ _ _ _ _ _ h]; rfl⟩
theorem clone_big (s : ByteArray) (hs : s.size ≤ 140737488355328) (w : World) : Calls Tryz.prog 34 #[.string s] w fun e w' => e = .returned (.string s) ∧ Below w.heap.size w w' := by
  have KC := Tryz.stringslite_Clone s
  have hl : s.size ≤ 281474976710656 := by omega
  clear hs
  go_enter Tryz.func34, Tryz.ntmps34
  go_wp2_with fail
  refine (KC _ hl).mono ?_
  rintro e w1 ⟨rfl, hb⟩
  go_wp2_with fail
  go_ret
  exact ⟨rfl, hb⟩
def allOk (ms : List (Int × ByteArray)) (ks : List Int) : Prop := ∀ (j : Nat) m k, ms[j]? = some m → ks[j]? = some k → okM m.1 k
def NewQ (w0 : World) (E : List (Nat × Thing)) (i : Nat) (ms : List (Int × ByteArray)) (ks : List Int) (t : Nat) (S : List (Nat × Nat)) (K M : Int) (e : Ending) (w' : World) : Prop :=
  (allOk ms ks ∧ ∃ q L C, e = .returned (.pointer (some ⟨q, 0, none⟩)) ∧ NewC ms ks t S K M ms.length C ∧ (S.length ≤ L.c ∧ L.c ≤ maxLen) ∧ Hid (Side w0 (cellE i q L C ++ E) w')) ∨ (¬ allOk ms ks ∧ e = .returned (.pointer none) ∧ Hid (Side w0 E w'))
set_option maxHeartbeats 12800000 in
theorem cnew_gen {w0 w : World} {E : List (Nat × Thing)} (h : Side w0 E w) (i : Nat) (hE : tagsOff i E) {a1 a2 sa : Option Addr} {n1 n2 ns c1 c2 sc : Nat} {ms : List (Int × ByteArray)} {ks : List Int} {S : List (Nat × Nat)}
    (HL : ∀ W, Side w0 E W → Holds2 W (.slice a1 n1 c1) (ms.map meaC)) (HK : ∀ W, Side w0 E W → Holds W (.slice a2 n2 c2) (i64s ks)) (HSet : ∀ W, Side w0 E W → SetAt W sa ns sc S) (t : Nat) (K M : Int) (hg : goodB t S K M = true)
    (hlen : ks.length = ms.length) (h16 : ms.length ≤ 16) (hsz : ∀ (j : Nat) m, ms[j]? = some m → m.2.size ≤ 140737488355328) :
    Calls Tryz.prog 9 #[.slice a1 n1 c1, .slice a2 n2 c2, setV t sa ns sc K M] w (NewQ w0 E i ms ks t S K M) := by
  obtain ⟨aS, cS, hvS, hcS⟩ := (HL w h).form
  have hn1 := (Value.slice.inj hvS).2.1
  rw [List.length_map] at hn1
  have hn2 : n2 = ks.length := by have := (HK w h).len.1; rw [i64s_len] at this; exact this.symm
  have hns : S.length = ns := (HSet w h).len
  have hgS : GoodS t S := by
    obtain ⟨tn, htn, hgS⟩ := goodB_set hg
    have : t = tn := by omega
    rw [this]
    exact hgS
  obtain ⟨sad, rfl, _⟩ := (HSet w h).at_ (by have := hgS.n1; omega)
  clear hvS hcS
  rw [hlen] at hn2
  obtain ⟨N, hN⟩ : ∃ N, ms.length = N := ⟨_, rfl⟩
  rw [hN] at hn1 hn2 hlen h16
  subst hn1 hn2
  obtain ⟨P, hP⟩ : ∃ P, NewQ w0 E i ms ks t S K M = P := ⟨_, rfl⟩
  have hb := below_c w (setO t (some sad) ns sc K M)
  have S1 := (h.alloc (i + 90) (setO t (some sad) ns sc K M))
  have KG := kgood_any (HSet _ (h.below hb)) (t : Int) K M
  rw [hg] at KG
  rw [hP]
  have t2 : decide ((16 : Int) < (n2 : Int)) = false := decide_eq_false (by omega)
  unfold setV
  have HS1 := Lib.hid S1
  replace HL := Lib.hid HL
  replace HK := Lib.hid HK
  replace HSet := Lib.hid HSet
  have HG := Lib.hid hg
  have HGS := Lib.hid hgS
  have HSZA := Lib.hid hsz
  have FNO := Lib.hid (fun (W : World) (hn : ¬ allOk ms ks) (hS : Side w0 E W) => (by rw [← hP]; exact .inr ⟨hn, rfl, Lib.hid hS⟩ : P (.returned (.pointer none)) W))
  have HE := Lib.hid hE
  have HP := Lib.hid hP
  have HN := Lib.hid hN
  have HLEN := Lib.hid hlen
  have H16 := Lib.hid h16
  have HNS := Lib.hid hns
  have HB := Lib.hid hb
  clear hb S1 h hg hgS hsz hE hP hN hlen hns
  unfold setO at KG
  go_enter Tryz.func9, Tryz.ntmps9
  go_wp2_with fail
  refine KG.mono ?_
  rintro e w2 ⟨rfl, hb2⟩
  have S2 := Lib.hid ((HS1.out.below hb2).drew)
  have C2 := set_cells (S2.out.heap (i := i + 90) (List.mem_cons_self ..))
  have KC := clone_ints (HK.out _ (S2.out.sub fun x hx => List.mem_cons_of_mem _ hx)) (by rw [HLEN.out]; omega)
  clear KG hb2 HS1
  go_upto_region 3 with (fail)
  refine wp_region_mix (fun W => W.cell? ⟨w.heap.size, 0, none⟩ = some (.int .i64 (t : Int)) ∧ W.cell? ⟨w.heap.size, 1, none⟩ = some (.slice (some sad) ns sc) ∧ W.cell? ⟨w.heap.size, 2, none⟩ = some (.int .i64 K) ∧ W.cell? ⟨w.heap.size, 3, none⟩ = some (.int .i64 M)) 6 [(true, 0), (true, 2), (false, 1), (true, 3), (false, 4), (true, 5)] (by kernel_rfl) (by decide +kernel) rfl (by decide +kernel) C2 ?_
  iterate 2
    refine wpMix_take (v := ?_) rfl rfl ?_ ?_
    rotate_left
    · (intro W hW; (try dsimp only at hW); go_simp) <;> with_reducible rfl
    simp only [Act.put, List.setIfInBounds_toArray, List.set_cons_zero, List.set_cons_succ]
  refine wpMix_run rfl ?_
  intro K' hK'
  go_wp2_with fail
  refine KC.mono ?_
  rintro e w3 ⟨kv, rfl, hro, hb3⟩
  have S3 := Lib.hid (side_row S2.out (i + 3) hro hb3)
  obtain ⟨ka, kc, hkv, _⟩ := ownsRow_form hro
  rw [HLEN.out] at hkv
  subst hkv
  have C3 := set_cells (S3.out.heap (i := i + 90) (List.mem_cons_of_mem _ (List.mem_cons_self ..)))
  clear KC hro hb3 C2 S2
  go_wp2_with fail
  refine hK'.out _ _ (fun _ => C3) ?_
  clear hK' K'
  iterate 1
    refine wpMix_take (v := ?_) rfl rfl ?_ ?_
    rotate_left
    · (intro W hW; (try dsimp only at hW); go_simp) <;> with_reducible rfl
    simp only [Act.put, List.setIfInBounds_toArray, List.set_cons_zero, List.set_cons_succ]
  refine wpMix_run rfl ?_
  intro K' hK'
  go_wp2_with fail
  have S4 := Lib.hid (S3.out.own i (.cells #[.slice none 0 0, .slice ka n2 kc, .int .i64 (t : Int), .slice (some sad) ns sc, .int .i64 K, .int .i64 M, .int .i64 0, .slice none 0 0] 92))
  have C4 := set_cells (S4.out.heap (i := i + 90) (List.mem_cons_of_mem _ (List.mem_cons_of_mem _ (List.mem_cons_self ..))))
  clear S3 C3
  refine hK'.out _ _ (fun _ => C4) ?_
  clear hK' K'
  iterate 1
    refine wpMix_take (v := ?_) rfl rfl ?_ ?_
    rotate_left
    · (intro W hW; (try dsimp only at hW); go_simp) <;> with_reducible rfl
    simp only [Act.put, List.setIfInBounds_toArray, List.set_cons_zero, List.set_cons_succ]
  refine wpMix_nil ?_
  obtain ⟨q, hq⟩ : ∃ q, w3.heap.size = q := ⟨_, rfl⟩
  obtain ⟨w4, hw4⟩ : ∃ w4, w3.alloc (.cells #[.slice none 0 0, .slice ka n2 kc, .int .i64 (t : Int), .slice (some sad) ns sc, .int .i64 K, .int .i64 M, .int .i64 0, .slice none 0 0] 92) = w4 := ⟨_, rfl⟩
  rw [hw4] at S4 C4 ⊢
  rw [hq] at S4 ⊢
  have hsd : SeedsIn w4 sad S := by
    obtain ⟨ad, e1, e2⟩ := (HSet.out w4 (S4.out.sub fun x hx => List.mem_cons_of_mem _ (List.mem_cons_of_mem _ (List.mem_cons_of_mem _ hx)))).at_ (by rw [← HNS.out]; have := HGS.out.n1; omega)
    cases e1
    exact e2
  have KS := clone_seeds (c := sc) hsd HGS.out.n1 (by have := HGS.out.n7; omega)
  rw [HNS.out] at KS
  clear hsd hw4 hq
  go_wp2_with fail
  refine KS.mono ?_
  rintro e w5 ⟨g, gc, rfl, hg1, hg2, hg3, hg4, hg5, hb5⟩
  rw [HNS.out]
  have S5 := side_seed S4.out (i + 4) hg1 hg2 hg5 hb5
  have hq5 := S5.heapO (i := i) (List.mem_cons_of_mem _ (List.mem_cons_self ..))
  have f3 := free_of_row hq5 3
  have c3 : w5.cell? ⟨q, 3, none⟩ = some (.slice (some sad) ns sc) := by rw [cell_of_row _ _ _ _ _ _ hq5]; rfl
  have S6 := Side.set (S5.sub (E' := (i, OBox q (.cells #[.slice none 0 0, .slice ka n2 kc, .int .i64 (t : Int), .slice (some sad) ns sc, .int .i64 K, .int .i64 M, .int .i64 0, .slice none 0 0] 92 (0, 0))) :: (i + 4, SeedT g S) :: (i + 3, RowT 3 1 (.slice ka n2 kc) ks.length (i64s ks)) :: (i + 90, Box w.heap.size (setO (t : Int) (some sad) ns sc K M)) :: E) (fun x hx => by simp only [List.mem_cons] at hx ⊢; rcases hx with hx | hx | hx | hx | hx <;> simp [hx])) (fun e he => by
    simp only [List.mem_cons] at he
    rcases he with rfl | rfl | rfl | he
    · simp
    · simp
    · simp
    · have := HE.out e he; omega) (j := 3) (.slice (some ⟨g, 0, none⟩) ns gc)
  have S7 : Hid (∃ L C, NewC ms ks t S K M 0 C ∧ (S.length ≤ L.c ∧ L.c ≤ maxLen) ∧ Side w0 (cellE i q L C ++ (i + 90, Box w.heap.size (setO (t : Int) (some sad) ns sc K M)) :: E) (w5.setCell ⟨q, 3, none⟩ (.slice (some ⟨g, 0, none⟩) ns gc))) := Lib.hid (by
    refine ⟨⟨.slice none 0 0, .slice ka n2 kc, g, gc, .slice none 0 0⟩, ⟨[], ks, t, S, K, M, 0, []⟩, ⟨by simp, rfl, rfl, rfl, rfl, rfl, rfl, rfl, fun j m k s _ _ hs => by simp at hs⟩, ⟨hg3, hg4⟩, ?_⟩
    have S8 := side_nil (side_nil S6 (i + 2) 97 1) (i + 1) 25 2
    refine S8.sub (fun x hx => ?_)
    unfold cellE celO stE at hx
    rw [HNS.out] at hx
    simp only [List.mem_cons, List.mem_append, List.not_mem_nil, or_false] at hx ⊢
    rcases hx with (hx | hx | hx | hx | hx) | hx | hx
    · subst hx; simp
    · subst hx; simp [fl2]
    · subst hx; simp [vals]
    · subst hx; simp
    · subst hx; simp
    · subst hx; simp
    · simp [hx])
  clear S5 S4 C4 KS hg1 hg2 hg3 hg4 hg5 hb5 hq5 S6
  go_wp2_with fail
  go_loopw [40] (fun s40 W => ∃ k : Nat, s40 = .int .i64 k ∧ k ≤ n2 ∧ Hid (∃ L C, NewC ms ks t S K M k C ∧ (S.length ≤ L.c ∧ L.c ≤ maxLen) ∧ Side w0 (cellE i q L C ++ (i + 90, Box w.heap.size (setO (t : Int) (some sad) ns sc K M)) :: E) W) ∧ Hid (∀ (j : Nat) m kk, j < k → ms[j]? = some m → ks[j]? = some kk → okM m.1 kk)) (fun s40 _ => n2 - (RowKit.intOf s40).toNat)
  case atStart => exact ⟨0, rfl, by omega, S7, Lib.hid (fun j _ _ hj => absurd hj (by omega))⟩
  case round =>
    clear S7
    obtain ⟨k, rfl, hk, HR, HA⟩ := hrel
    by_cases hlt : k < n2
    · obtain ⟨⟨mv, kv, g', gc', stv⟩, ⟨cms, cks, ct, cS, cK, cM, crows, cst⟩, hC, hcp, hS⟩ := HR.out
      have HCP := Lib.hid hcp
      clear hcp
      obtain ⟨e1, e2, e3, e4, e5, e6, e7, e8, e9⟩ := hC
      simp only at e1 e2 e3 e4 e5 e6 e7 e8 e9
      replace e1 := e1.symm
      replace e2 := e2.symm
      replace e3 := e3.symm
      replace e4 := e4.symm
      replace e5 := e5.symm
      replace e6 := e6.symm
      replace e7 := e7.symm
      subst e1 e2 e3 e4 e5 e6 e7
      have hkN : k < ms.length := by rw [HN.out]; exact hlt
      have htl : (ms.take k).length = k := by rw [List.length_take]; omega
      obtain ⟨⟨mk, col⟩, hm⟩ : ∃ m, ms[k]? = some m := ⟨_, List.getElem?_eq_getElem hkN⟩
      obtain ⟨kk, hkk⟩ : ∃ c, ks[k]? = some c := ⟨_, List.getElem?_eq_getElem (by rw [HLEN.out]; exact hlt)⟩
      have hsz := HSZA.out k _ hm
      simp only at hsz
      have hl2 := HL.out wr (hS.sub (fun x hx => by simp [hx]))
      have hlk := HK.out wr (hS.sub (fun x hx => by simp [hx]))
      obtain ⟨ad1, ha1, hc0, hc1⟩ := hl2.at_ (i := k) (x := meaC (mk, col)) (by rw [List.getElem?_map, hm]; rfl)
      obtain ⟨ad2, ha2⟩ := hlk.ptr (by omega)
      subst ha1 ha2
      have hk64 : i64s ks = ks.map fun n => Value.int .i64 n := rfl
      have HCK := Lib.hid (fun (V : World) (hV : Side w0 E V) => (HK.out V hV).cell (j := k) (u := .int .i64 kk) (by rw [hk64, List.getElem?_map, hkk]; rfl))
      unfold meaC at hc0 hc1
      simp only at hc0 hc1
      have l0 : (0 : Int) ≤ (k : Int) := Int.natCast_nonneg k
      have l1 : (k : Int) < (n2 : Int) := Int.ofNat_lt.2 hlt
      have hwk : IntKind.i64.wrap ((k : Int) + 1) = (k : Int) + 1 := by rw [IntKind.wrap_i64]; omega
      unfold cellE celO at hS
      simp only at hS
      rw [htl, e8] at hS
      have S9 := (hS.alloc (i + 91) (.cells #[.int .i64 mk, .string col] 25)).sub (E' := (i + 91, Box wr.heap.size (.cells #[.int .i64 mk, .string col] 25)) :: (i, OBox q (.cells #[mv, kv, .int .i64 (t : Int), .slice (some ⟨g', 0, none⟩) S.length gc', .int .i64 K, .int .i64 M, .int .i64 0, stv] 92 (0, 0))) :: (i + 1, RowT 25 2 mv k (fl2 ((ms.take k).map meaC))) :: (i + 2, RowT 97 1 stv k (vals cst)) :: (i + 3, RowT 3 1 kv ks.length (i64s ks)) :: (i + 4, SeedT g' S) :: (stE (i + 5) cst ++ (i + 90, Box w.heap.size (setO (t : Int) (some sad) ns sc K M)) :: E)) (fun x hx => by simp only [List.mem_cons, List.mem_append] at hx ⊢; rcases hx with hx | hx | hx | hx | hx | hx | hx | hx | hx <;> simp [hx])
      have HS9 := Lib.hid S9.drew
      have HCS := Lib.hid (fun (V : World) (hV : Side w0 ((i + 90, Box w.heap.size (setO (t : Int) (some sad) ns sc K M)) :: E) V) => set_cells (hV.heap (i := i + 90) (List.mem_cons_self ..)))
      by_cases hok : okM mk kk
      rotate_left
      · have KB := fun V => begin_no (w := V) (sa := some sad) (n := ns) (sc := sc) t K M mk kk hok
        have HNO : Hid (¬ allOk ms ks) := Lib.hid fun h => hok (h k _ _ hm hkk)
        have C9 : (wr.alloc (.cells #[.int .i64 mk, .string col] 25)).drew.cell? ⟨wr.heap.size, 0, none⟩ = some (.int .i64 mk) ∧ (wr.alloc (.cells #[.int .i64 mk, .string col] 25)).drew.cell? (ad2.add k) = some (.int .i64 kk) ∧ _ := ⟨by rw [cell_of_row _ _ _ _ _ _ (HS9.out.heap (i := i + 91) (List.mem_cons_self ..))]; rfl, HCK.out _ (HS9.out.sub (fun x hx => by simp [hx])), HCS.out _ (HS9.out.sub (fun x hx => by simp only [List.mem_cons, List.mem_append] at hx ⊢; rcases hx with hx | hx <;> simp [hx]))⟩
        unfold setV at KB
        have S9' := Lib.hid HS9.out
        clear hl2 hlk hm hkk hsz htl e8 e9 hS S9 HR HA hkN hk hk64 hok
        go_upto_region 8 with (fail)
        refine wp_region_mix (fun V => V.cell? ⟨wr.heap.size, 0, none⟩ = some (.int .i64 mk) ∧ V.cell? (ad2.add k) = some (.int .i64 kk) ∧ V.cell? ⟨w.heap.size, 0, none⟩ = some (.int .i64 (t : Int)) ∧ V.cell? ⟨w.heap.size, 1, none⟩ = some (.slice (some sad) ns sc) ∧ V.cell? ⟨w.heap.size, 2, none⟩ = some (.int .i64 K) ∧ V.cell? ⟨w.heap.size, 3, none⟩ = some (.int .i64 M)) 9 [(true, 0), (true, 1), (true, 2), (true, 3), (true, 4), (true, 5), (true, 6), (false, 7), (true, 8)] (by kernel_rfl) (by decide +kernel) rfl (by decide +kernel) C9 ?_
        iterate 7
          refine wpMix_take (v := ?_) rfl rfl ?_ ?_
          rotate_left
          · (intro W hW; (try dsimp only at hW); go_simp) <;> with_reducible rfl
          simp only [Act.put, List.setIfInBounds_toArray, List.set_cons_zero, List.set_cons_succ]
        refine wpMix_run rfl ?_
        intro K' hK'
        go_wp2_with fail
        refine (KB _).mono ?_
        rintro e w10 ⟨rfl, hb10⟩
        have S10 := Lib.hid (S9'.out.below hb10)
        have C10 : w10.cell? ⟨wr.heap.size, 0, none⟩ = some (.int .i64 mk) ∧ w10.cell? (ad2.add k) = some (.int .i64 kk) ∧ _ := ⟨by rw [cell_of_row _ _ _ _ _ _ (S10.out.heap (i := i + 91) (List.mem_cons_self ..))]; rfl, HCK.out _ (S10.out.sub (fun x hx => by simp [hx])), HCS.out _ (S10.out.sub (fun x hx => by simp only [List.mem_cons, List.mem_append] at hx ⊢; rcases hx with hx | hx <;> simp [hx]))⟩
        have FI := Lib.hid (fun (W : World) (hW : Below w10.heap.size w10 W) => FNO.out W HNO.out ((S10.out.below hW).sub (fun x hx => by simp [hx])))
        have F0 := FI.out w10 (Below.refl _ _)
        have F1 := FI.out w10.drew (below_drew1 _)
        clear KB C9 HS9 hb10 S10 S9' FI
        go_wp2_with fail
        refine hK'.out _ _ (fun _ => C10) ?_
        clear hK' K' C10
        iterate 1
          refine wpMix_take (v := ?_) rfl rfl ?_ ?_
          rotate_left
          · (intro W hW; (try dsimp only at hW); go_simp) <;> with_reducible rfl
          simp only [Act.put, List.setIfInBounds_toArray, List.set_cons_zero, List.set_cons_succ]
        refine wpMix_nil ?_
        have hnil : ∀ W, (binOp .eql 97 .nilIface .nilIface).run Tryz.prog W = .ok (.bool true) W := fun _ => by kernel_rfl
        go_wp2_with fail
        first | exact F0 | exact F1
      have HA2 : Hid (∀ (j : Nat) m' k', j < k + 1 → ms[j]? = some m' → ks[j]? = some k' → okM m'.1 k') := Lib.hid fun j m' k' hj e1' e2' => by
        rcases Nat.lt_or_ge j k with h | h
        · exact HA.out j m' k' h e1' e2'
        · have : j = k := by omega
          subst this
          rw [hm] at e1'
          rw [hkk] at e2'
          simp only [Option.some.injEq] at e1' e2'
          subst e1' e2'
          exact hok
      have HKX := Lib.hid hkk
      have HKB := Lib.hid (fun (V : World) (hV : Side w0 ((i + 91, Box wr.heap.size (.cells #[.int .i64 mk, .string col] 25)) :: (i, OBox q (.cells #[mv, kv, .int .i64 (t : Int), .slice (some ⟨g', 0, none⟩) S.length gc', .int .i64 K, .int .i64 M, .int .i64 0, stv] 92 (0, 0))) :: (i + 1, RowT 25 2 mv k (fl2 ((ms.take k).map meaC))) :: (i + 2, RowT 97 1 stv k (vals cst)) :: (i + 3, RowT 3 1 kv ks.length (i64s ks)) :: (i + 4, SeedT g' S) :: (stE (i + 5) cst ++ (i + 90, Box w.heap.size (setO (t : Int) (some sad) ns sc K M)) :: E)) V) => begin_any hV (i + 5 + k) (HSet.out V (hV.sub (fun x hx => by simp [hx]))) t K M HG.out mk kk hok)
      have HHK := Lib.hid hk
      have HLT := Lib.hid hlt
      have HM := Lib.hid hm
      have HSZ := Lib.hid hsz
      have HTL := Lib.hid htl
      have H8 := Lib.hid e8
      have H9 := Lib.hid e9
      have C9 : (wr.alloc (.cells #[.int .i64 mk, .string col] 25)).drew.cell? ⟨wr.heap.size, 0, none⟩ = some (.int .i64 mk) ∧ (wr.alloc (.cells #[.int .i64 mk, .string col] 25)).drew.cell? (ad2.add k) = some (.int .i64 kk) ∧ _ := ⟨by rw [cell_of_row _ _ _ _ _ _ (HS9.out.heap (i := i + 91) (List.mem_cons_self ..))]; rfl, HCK.out _ (HS9.out.sub (fun x hx => by simp [hx])), HCS.out _ (HS9.out.sub (fun x hx => by simp only [List.mem_cons, List.mem_append] at hx ⊢; rcases hx with hx | hx <;> simp [hx]))⟩
      have KB := HKB.out _ HS9.out
      unfold setV at KB
      clear hl2 hlk hm hkk hok hsz htl e8 e9 hS S9 HR HA hkN hk HKB hk64 FNO
      go_upto_region 8 with (fail)
      refine wp_region_mix (fun V => V.cell? ⟨wr.heap.size, 0, none⟩ = some (.int .i64 mk) ∧ V.cell? (ad2.add k) = some (.int .i64 kk) ∧ V.cell? ⟨w.heap.size, 0, none⟩ = some (.int .i64 (t : Int)) ∧ V.cell? ⟨w.heap.size, 1, none⟩ = some (.slice (some sad) ns sc) ∧ V.cell? ⟨w.heap.size, 2, none⟩ = some (.int .i64 K) ∧ V.cell? ⟨w.heap.size, 3, none⟩ = some (.int .i64 M)) 9 [(true, 0), (true, 1), (true, 2), (true, 3), (true, 4), (true, 5), (true, 6), (false, 7), (true, 8)] (by kernel_rfl) (by decide +kernel) rfl (by decide +kernel) C9 ?_
      iterate 7
        refine wpMix_take (v := ?_) rfl rfl ?_ ?_
        rotate_left
        · (intro W hW; (try dsimp only at hW); go_simp) <;> with_reducible rfl
        simp only [Act.put, List.setIfInBounds_toArray, List.set_cons_zero, List.set_cons_succ]
      refine wpMix_run rfl ?_
      intro K' hK'
      go_wp2_with fail
      refine KB.mono ?_
      rintro e w10 ⟨b, s, rfl, hbeg, S10⟩
      have C10 : w10.cell? ⟨wr.heap.size, 0, none⟩ = some (.int .i64 mk) ∧ w10.cell? (ad2.add k) = some (.int .i64 kk) ∧ _ := ⟨by rw [cell_of_row _ _ _ _ _ _ (S10.out.heap (i := i + 91) (List.mem_cons_of_mem _ (List.mem_cons_self ..)))]; rfl, HCK.out _ (S10.out.sub (fun x hx => by simp [hx])), HCS.out _ (S10.out.sub (fun x hx => by simp only [List.mem_cons, List.mem_append] at hx ⊢; rcases hx with hx | hx <;> simp [hx]))⟩
      have HBEG := Lib.hid hbeg
      clear KB C9 HS9 hbeg
      go_wp2_with fail
      refine hK'.out _ _ (fun _ => C10) ?_
      clear hK' K' C10
      iterate 1
        refine wpMix_take (v := ?_) rfl rfl ?_ ?_
        rotate_left
        · (intro W hW; (try dsimp only at hW); go_simp) <;> with_reducible rfl
        simp only [Act.put, List.setIfInBounds_toArray, List.set_cons_zero, List.set_cons_succ]
      refine wpMix_nil ?_
      obtain ⟨ty, hsv⟩ : ∃ ty, Sv.val b s = .iface ty (.pointer (some ⟨b, 0, none⟩)) := by cases s <;> exact ⟨_, rfl⟩
      have hnil : ∀ W, (binOp .eql 97 (.iface ty (.pointer (some ⟨b, 0, none⟩))) .nilIface).run Tryz.prog W = .ok (.bool false) W := by rw [← hsv]; cases s <;> exact fun _ => by kernel_rfl
      have hguard : ∀ (x y : Operand) (W : World), (eqGuard .eql 97 x y (.iface ty (.pointer (some ⟨b, 0, none⟩))) .nilIface).run Tryz.prog W = .ok () W := by rw [← hsv]; cases s <;> exact fun _ _ _ => by kernel_rfl
      rw [hsv]
      have HSV := Lib.hid hsv
      have S11 := Lib.hid S10.out.drew
      obtain ⟨Tg, hTg⟩ := side_thing S11.out (i := i + 1) (A := RowT 25 2 mv k (fl2 ((ms.take k).map meaC))) (by simp)
      obtain ⟨ma, mc, hmv, _⟩ := ownsRow_form hTg.1
      obtain ⟨Tg2, hTg2⟩ := side_thing S11.out (i := i + 2) (A := RowT 97 1 stv k (vals cst)) (by simp)
      obtain ⟨sa2, sc2, hstv, _⟩ := ownsRow_form hTg2.1
      subst hmv hstv
      clear hTg hTg2 hsv S10
      have HC11 := Lib.hid (fun (V : World) (hV : Side w0 [(i, OBox q (.cells #[(.slice ma k mc), kv, .int .i64 (t : Int), .slice (some ⟨g', 0, none⟩) S.length gc', .int .i64 K, .int .i64 M, .int .i64 0, (.slice sa2 k sc2)] 92 (0, 0))), (i + 91, Box wr.heap.size (.cells #[.int .i64 mk, .string col] 25))] V) => (show V.cell? ⟨q, 0, none⟩ = some (.slice ma k mc) ∧ V.cell? ⟨wr.heap.size, 0, none⟩ = some (.int .i64 mk) ∧ V.cell? ⟨wr.heap.size, 1, none⟩ = some (.string col) from
        ⟨by rw [cell_of_row _ _ _ _ _ _ (hV.heapO (i := i) (List.mem_cons_self ..))]; rfl, by rw [cell_of_row _ _ _ _ _ _ (hV.heap (i := i + 91) (List.mem_cons_of_mem _ (List.mem_cons_self ..)))]; rfl, by rw [cell_of_row _ _ _ _ _ _ (hV.heap (i := i + 91) (List.mem_cons_of_mem _ (List.mem_cons_self ..)))]; rfl⟩))
      have C11 := HC11.out _ (S11.out.sub (fun x hx => by simp only [List.mem_cons, List.not_mem_nil, or_false] at hx; rcases hx with hx | hx <;> simp [hx]))
      have KCl := fun V => clone_big col HSZ.out V
      have HKCl := Lib.hid KCl
      clear KCl
      go_upto_region 11 with (fail)
      refine wp_region_mix (fun V => V.cell? ⟨q, 0, none⟩ = some (.slice ma k mc) ∧ V.cell? ⟨wr.heap.size, 0, none⟩ = some (.int .i64 mk) ∧ V.cell? ⟨wr.heap.size, 1, none⟩ = some (.string col)) 15 [(true, 0), (true, 1), (true, 2), (true, 3), (true, 4), (true, 5), (true, 6), (true, 7), (true, 8), (false, 9), (true, 10), (false, 11), (false, 12), (true, 13), (true, 14), (false, 15)] (by kernel_rfl) (by decide +kernel) rfl (by decide +kernel) C11 ?_
      iterate 9
        refine wpMix_take (v := ?_) rfl rfl ?_ ?_
        rotate_left
        · (intro W hW; (try dsimp only at hW); go_simp) <;> with_reducible rfl
        simp only [Act.put, List.setIfInBounds_toArray, List.set_cons_zero, List.set_cons_succ]
      refine wpMix_run rfl ?_
      intro K' hK'
      go_wp2_with fail
      refine (HKCl.out _).mono ?_
      rintro e w12 ⟨rfl, hb12⟩
      have S12 := Lib.hid (S11.out.below hb12)
      have C12 := HC11.out _ (S12.out.sub (fun x hx => by simp only [List.mem_cons, List.not_mem_nil, or_false] at hx; rcases hx with hx | hx <;> simp [hx]))
      clear hb12 S11 HKCl C11
      go_wp2_with fail
      refine hK'.out _ _ (fun _ => C12) ?_
      clear hK' K'
      iterate 1
        refine wpMix_take (v := ?_) rfl rfl ?_ ?_
        rotate_left
        · (intro W hW; (try dsimp only at hW); go_simp) <;> with_reducible rfl
        simp only [Act.put, List.setIfInBounds_toArray, List.set_cons_zero, List.set_cons_succ]
      have S12' := S12.out.sub (E' := (i + 1, RowT 25 2 (.slice ma k mc) k (fl2 ((ms.take k).map meaC))) :: (i + 5 + k, StT b s) :: (i + 91, Box wr.heap.size (.cells #[.int .i64 mk, .string col] 25)) :: (i, OBox q (.cells #[(.slice ma k mc), kv, .int .i64 (t : Int), .slice (some ⟨g', 0, none⟩) S.length gc', .int .i64 K, .int .i64 M, .int .i64 0, (.slice sa2 k sc2)] 92 (0, 0))) :: (i + 2, RowT 97 1 (.slice sa2 k sc2) k (vals cst)) :: (i + 3, RowT 3 1 kv ks.length (i64s ks)) :: (i + 4, SeedT g' S) :: (stE (i + 5) cst ++ (i + 90, Box w.heap.size (setO (t : Int) (some sad) ns sc K M)) :: E)) (fun x hx => by simp only [List.mem_cons, List.mem_append] at hx ⊢; rcases hx with hx | hx | hx | hx | hx | hx | hx | hx | hx | hx <;> simp [hx])
      obtain ⟨v14, X, R14, S14⟩ := side_push Tryz.underlying26 infoMea rfl (by omega) S12' (fun e he => by
        simp only [List.mem_cons, List.mem_append] at he
        rcases he with rfl | rfl | rfl | rfl | rfl | rfl | he | rfl | he
        · intro h; dsimp only at h; omega
        · intro h; dsimp only at h; omega
        · intro h; dsimp only at h; omega
        · intro h; dsimp only at h; omega
        · intro h; dsimp only at h; omega
        · intro h; dsimp only at h; omega
        · have := stE_mem _ _ _ he; omega
        · intro h; dsimp only at h; omega
        · have := HE.out e he; omega) [.int .i64 mk, .string col] rfl (fun u hu => by simp at hu; rcases hu with rfl | rfl <;> rfl) (by have := H16.out; have := HLT.out; omega) (by have := H16.out; have := HLT.out; omega)
      have C13 := HC11.out _ ((S12.out.below (below_c w12 (.cells #[.int .i64 mk, .string col] 25))).sub (fun x hx => by simp only [List.mem_cons, List.not_mem_nil, or_false] at hx; rcases hx with hx | hx <;> simp [hx]))
      have C14 := HC11.out _ (S14.out.sub (fun x hx => by simp only [List.mem_cons, List.not_mem_nil, or_false] at hx; rcases hx with hx | hx <;> simp [hx]))
      obtain ⟨Tg, hTg⟩ := side_thing S14.out (i := i + 1) (List.mem_cons_self ..)
      obtain ⟨va, vc, hv14, _⟩ := ownsRow_form hTg.1
      subst hv14
      clear S12 S12' C12 hTg
      refine wpMix_run rfl ?_
      intro K' hK'
      go_wp2_with fail
      refine hK'.out _ _ (fun _ => C13) ?_
      clear hK' K'
      refine wpMix_run rfl ?_
      intro K' hK'
      go_wp2_with (at_builtin; refine wpList_append_run rfl (.tmp 59) (.tmp 66) 26 rfl rfl rfl (R14.out _) ?_)
      refine hK'.out _ _ (fun _ => C14) ?_
      clear hK' K' C13
      iterate 2
        refine wpMix_take (v := ?_) rfl rfl ?_ ?_
        rotate_left
        · (intro W hW; (try dsimp only at hW); go_simp) <;> with_reducible rfl
        simp only [Act.put, List.setIfInBounds_toArray, List.set_cons_zero, List.set_cons_succ]
      have h14q := S14.out.heapO (i := i) (b := q) (ob := (.cells #[(.slice ma k mc), kv, .int .i64 (t : Int), .slice (some ⟨g', 0, none⟩) S.length gc', .int .i64 K, .int .i64 M, .int .i64 0, (.slice sa2 k sc2)] 92 (0, 0))) (by simp)
      have f0 := free_of_row h14q 0
      have S15 := Lib.hid (Side.set (j := 0) (S14.out.sub (E' := (i, OBox q (.cells #[.slice ma k mc, kv, .int .i64 (t : Int), .slice (some ⟨g', 0, none⟩) S.length gc', .int .i64 K, .int .i64 M, .int .i64 0, .slice sa2 k sc2] 92 (0, 0))) :: (i + 1, RowT 25 2 (.slice va (k + 1) vc) (k + 1) ((fl2 ((ms.take k).map meaC)) ++ [.int .i64 mk, .string col])) :: (i + 5 + k, StT b s) :: (i + 91, Box wr.heap.size (.cells #[.int .i64 mk, .string col] 25)) :: (i + 2, RowT 97 1 (.slice sa2 k sc2) k (vals cst)) :: (i + 3, RowT 3 1 kv ks.length (i64s ks)) :: (i + 4, SeedT g' S) :: (stE (i + 5) cst ++ (i + 90, Box w.heap.size (setO (t : Int) (some sad) ns sc K M)) :: E)) (fun x hx => by simp only [List.mem_cons, List.mem_append] at hx ⊢; rcases hx with hx | hx | hx | hx | hx | hx | hx | hx | hx | hx <;> simp [hx])) (fun e he => by
        simp only [List.mem_cons, List.mem_append] at he
        rcases he with rfl | rfl | rfl | rfl | rfl | rfl | he | rfl | he
        · intro h; dsimp only at h; omega
        · intro h; dsimp only at h; omega
        · intro h; dsimp only at h; omega
        · intro h; dsimp only at h; omega
        · intro h; dsimp only at h; omega
        · intro h; dsimp only at h; omega
        · have := stE_mem _ _ _ he; omega
        · intro h; dsimp only at h; omega
        · have := HE.out e he; omega) (.slice va (k + 1) vc))
      refine wpMix_run rfl ?_
      intro K' hK'
      go_wp2_with fail
      refine hK'.out _ _ (fun h => absurd rfl h) ?_
      clear hK' K' C14 f0 h14q S14 R14 HC11
      refine wpMix_nil ?_
      obtain ⟨Y, hY⟩ : ∃ Y, X.setCell ⟨q, 0, none⟩ (.slice va (k + 1) vc) = Y := ⟨_, rfl⟩
      have S15' : Side w0 ((i + 2, RowT 97 1 (.slice sa2 k sc2) k (vals cst)) :: (i + 5 + k, StT b s) :: (i + 91, Box wr.heap.size (.cells #[.int .i64 mk, .string col] 25)) :: (i, OBox q (.cells #[.slice va (k + 1) vc, kv, .int .i64 (t : Int), .slice (some ⟨g', 0, none⟩) S.length gc', .int .i64 K, .int .i64 M, .int .i64 0, .slice sa2 k sc2] 92 (0, 0))) :: (i + 1, RowT 25 2 (.slice va (k + 1) vc) (k + 1) ((fl2 ((ms.take k).map meaC)) ++ [.int .i64 mk, .string col])) :: (i + 3, RowT 3 1 kv ks.length (i64s ks)) :: (i + 4, SeedT g' S) :: (stE (i + 5) cst ++ (i + 90, Box w.heap.size (setO (t : Int) (some sad) ns sc K M)) :: E)) Y := by
        rw [← hY]
        exact S15.out.sub (fun x hx => by simp only [List.mem_cons, List.mem_append] at hx ⊢; rcases hx with hx | hx | hx | hx | hx | hx | hx | hx | hx | hx <;> simp [hx])
      rw [hY]
      obtain ⟨v17, X2, R17, S17⟩ := side_push Tryz.underlying90 infoSta rfl (by omega) S15' (fun e he => by
        simp only [List.mem_cons, List.mem_append] at he
        rcases he with rfl | rfl | rfl | rfl | rfl | rfl | he | rfl | he
        · intro h; dsimp only at h; omega
        · intro h; dsimp only at h; omega
        · intro h; dsimp only at h; omega
        · intro h; dsimp only at h; omega
        · intro h; dsimp only at h; omega
        · intro h; dsimp only at h; omega
        · have := stE_mem _ _ _ he; omega
        · intro h; dsimp only at h; omega
        · have := HE.out e he; omega) [.iface ty (.pointer (some ⟨b, 0, none⟩))] rfl (fun u hu => by rw [List.mem_singleton] at hu; rw [hu]; rfl) (by have := H16.out; have := HLT.out; omega) (by have := H16.out; have := HLT.out; omega)
      have c7 : Y.cell? ⟨q, 7, none⟩ = some (.slice sa2 k sc2) := by rw [cell_of_row _ _ _ _ _ _ (S15'.heapO (i := i) (b := q) (ob := .cells #[.slice va (k + 1) vc, kv, .int .i64 (t : Int), .slice (some ⟨g', 0, none⟩) S.length gc', .int .i64 K, .int .i64 M, .int .i64 0, .slice sa2 k sc2] 92 (0, 0)) (by simp))]; rfl
      obtain ⟨Tg, hTg⟩ := side_thing S17.out (i := i + 2) (List.mem_cons_self ..)
      obtain ⟨vb, vd, hv17, _⟩ := ownsRow_form hTg.1
      subst hv17
      have h17q := S17.out.heapO (i := i) (b := q) (ob := .cells #[.slice va (k + 1) vc, kv, .int .i64 (t : Int), .slice (some ⟨g', 0, none⟩) S.length gc', .int .i64 K, .int .i64 M, .int .i64 0, .slice sa2 k sc2] 92 (0, 0)) (by simp)
      have f7 := free_of_row h17q 7
      have d7 : X2.cell? ⟨q, 7, none⟩ = some (.slice sa2 k sc2) := by rw [cell_of_row _ _ _ _ _ _ h17q]; rfl
      have S18 := Lib.hid (Side.set (j := 7) (S17.out.sub (E' := (i, OBox q (.cells #[.slice va (k + 1) vc, kv, .int .i64 (t : Int), .slice (some ⟨g', 0, none⟩) S.length gc', .int .i64 K, .int .i64 M, .int .i64 0, .slice sa2 k sc2] 92 (0, 0))) :: (i + 2, RowT 97 1 (.slice vb (k + 1) vd) (k + 1) ((vals cst) ++ [.iface ty (.pointer (some ⟨b, 0, none⟩))])) :: (i + 5 + k, StT b s) :: (i + 91, Box wr.heap.size (.cells #[.int .i64 mk, .string col] 25)) :: (i + 1, RowT 25 2 (.slice va (k + 1) vc) (k + 1) ((fl2 ((ms.take k).map meaC)) ++ [.int .i64 mk, .string col])) :: (i + 3, RowT 3 1 kv ks.length (i64s ks)) :: (i + 4, SeedT g' S) :: (stE (i + 5) cst ++ (i + 90, Box w.heap.size (setO (t : Int) (some sad) ns sc K M)) :: E)) (fun x hx => by simp only [List.mem_cons, List.mem_append] at hx ⊢; rcases hx with hx | hx | hx | hx | hx | hx | hx | hx | hx | hx <;> simp [hx])) (fun e he => by
        simp only [List.mem_cons, List.mem_append] at he
        rcases he with rfl | rfl | rfl | rfl | rfl | rfl | he | rfl | he
        · intro h; dsimp only at h; omega
        · intro h; dsimp only at h; omega
        · intro h; dsimp only at h; omega
        · intro h; dsimp only at h; omega
        · intro h; dsimp only at h; omega
        · intro h; dsimp only at h; omega
        · have := stE_mem _ _ _ he; omega
        · intro h; dsimp only at h; omega
        · have := HE.out e he; omega) (.slice vb (k + 1) vd))
      clear hTg S15 S15' h17q S17 hY
      go_wp2_with (at_builtin; refine wpList_append_run rfl _ _ 90 rfl rfl rfl (R17.out _) ?_)
      go_roundw
      case rel => 
        refine ⟨k + 1, by go_num, by omega, Lib.hid ⟨⟨.slice va (k + 1) vc, kv, g', gc', .slice vb (k + 1) vd⟩, ⟨ms.take (k + 1), ks, t, S, K, M, 0, cst ++ [(b, s)]⟩, ⟨rfl, rfl, rfl, rfl, rfl, rfl, rfl, by rw [List.length_append, H8.out]; rfl, fun j m kk' s' hmj hkj hsj => ?_⟩, HCP.out, ?_⟩, HA2⟩
        · rcases Nat.lt_or_ge j k with hj | hj
          · rw [List.getElem?_append_left (by rw [H8.out]; exact hj)] at hsj
            exact H9.out j m kk' s' hmj hkj hsj
          · rw [List.getElem?_append_right (by rw [H8.out]; exact hj), H8.out] at hsj
            have hj0 : j - k = 0 := by
              rcases Nat.eq_zero_or_pos (j - k) with h | h
              · exact h
              · rw [List.getElem?_eq_none (by simp; omega)] at hsj; cases hsj
            rw [hj0] at hsj
            simp only [List.getElem?_cons_zero, Option.some.injEq] at hsj
            subst hsj
            have hjk : j = k := by omega
            subst hjk
            rw [HM.out] at hmj
            rw [HKX.out] at hkj
            simp only [Option.some.injEq] at hmj hkj
            subst hmj hkj
            exact HBEG.out
        · have htk : ms.take (k + 1) = ms.take k ++ [(mk, col)] := by rw [List.take_add_one, HM.out]; rfl
          refine S18.out.sub (fun x hx => ?_)
          unfold cellE celO at hx
          rw [stE_snoc, htk] at hx
          simp only [List.mem_cons, List.mem_append, List.length_append, HTL.out, H8.out, List.length_cons, List.length_nil, List.not_mem_nil, or_false, Nat.zero_add] at hx ⊢
          rcases hx with (hx | hx | hx | hx | hx | hx | hx) | hx | hx
          · subst hx; simp
          · subst hx; simp [fl2, meaC]
          · subst hx; simp [vals, HSV.out]
          · subst hx; simp
          · subst hx; simp
          · simp [hx]
          · subst hx; simp
          · subst hx; simp
          · simp [hx]
      case measure => have := HLT.out; simp [RowKit.intOf]; omega
    · obtain ⟨L, C, hC, hcp, hS⟩ := HR.out
      have hkN : k = n2 := by omega
      have FI : P (.returned (.pointer (some ⟨q, 0, none⟩))) wr := by
        rw [← HP.out]
        exact .inl ⟨fun j m k' e1' e2' => HA.out j m k' (by have := (List.getElem?_eq_some_iff.1 e1').1; rw [HN.out] at this; omega) e1' e2', q, L, C, rfl, by rw [HN.out, ← hkN]; exact hC, hcp, Lib.hid (hS.sub (fun x hx => by simp only [List.mem_append, List.mem_cons] at hx ⊢; rcases hx with hx | hx <;> simp [hx]))⟩
      have hlt' : ¬ ((k : Int) < (n2 : Int)) := by omega
      clear hC hcp hS HR HA hlt hk hkN FNO
      go_wp2_with fail
      exact FI
theorem cnew_any {w0 w : World} {E : List (Nat × Thing)} (h : Side w0 E w) (i : Nat) (hE : tagsOff i E) {a1 a2 sa : Option Addr} {n1 n2 ns c1 c2 sc : Nat} {ms : List (Int × ByteArray)} {ks : List Int} {S : List (Nat × Nat)}
    (HL : ∀ W, Side w0 E W → Holds2 W (.slice a1 n1 c1) (ms.map meaC)) (HK : ∀ W, Side w0 E W → Holds W (.slice a2 n2 c2) (i64s ks)) (HSet : ∀ W, Side w0 E W → SetAt W sa ns sc S) (t : Nat) (K M : Int) (hg : goodB t S K M = true)
    (hlen : ks.length = ms.length) (h16 : ms.length ≤ 16) (hok : ∀ (j : Nat) m k, ms[j]? = some m → ks[j]? = some k → okM m.1 k ∧ m.2.size ≤ 140737488355328) :
    Calls Tryz.prog 9 #[.slice a1 n1 c1, .slice a2 n2 c2, setV t sa ns sc K M] w (NewP w0 E i ms ks t S K M) := by
  refine (cnew_gen h i hE HL HK HSet t K M hg hlen h16 (fun j m hm => ?_)).mono ?_
  · obtain ⟨k, hk⟩ : ∃ k, ks[j]? = some k := ⟨_, List.getElem?_eq_getElem (by have := (List.getElem?_eq_some_iff.1 hm).1; omega)⟩
    exact (hok j m k hm hk).2
  · rintro e w' (⟨_, q, L, C, h1, h2, _, h3⟩ | ⟨hn, _⟩)
    · exact ⟨q, L, C, h1, h2, h3⟩
    · exact absurd (fun j m k e1 e2 => (hok j m k e1 e2).1) hn
end Go.Proofs.YtlhpbfjelgmkeaaGreat
/- A cell that was made: what it has, and whether values fit. Conditions: kinds 1 to 4; values with numbers that are ints. -/
set_option maxRecDepth 100000
namespace Go.Proofs.YtlhpbfjelgmkeaaGreat
open Go.RowKit Go.Maps Go.Sort Go.Lib
open Wide

section
variable {w0 w : World} {E : List (Nat × Thing)} {i q : Nat} {L : Lay} {C : Cv}
theorem cmade_yes (h : w.heap[q]? = some (celO L C)) (ht : 1 ≤ C.t) : Calls Tryz.prog 36 #[.pointer (some ⟨q, 0, none⟩)] w fun e w' => e = .returned (.bool true) ∧ w = w' := by
  have c2 : w.cell? ⟨q, 2, none⟩ = some (.int .i64 (C.t : Int)) := by rw [cell_of_row _ _ _ _ _ _ h]; rfl
  have t0 : decide ((0 : Int) < (C.t : Int)) = true := decide_eq_true (by omega)
  have t1 : 0 < C.t := by omega
  generalize C.t = t at *
  clear h ht
  go_enter Tryz.func36, Tryz.ntmps36
  go_wp2_with fail
  go_ret
  exact ⟨rfl, rfl⟩
theorem crows_at (h : w.heap[q]? = some (celO L C)) (ht : 1 ≤ C.t) : Calls Tryz.prog 14 #[.pointer (some ⟨q, 0, none⟩)] w fun e w' => e = .returned (.int .i64 (C.rows : Int)) ∧ w = w' := by
  have KM := cmade_yes h ht
  have c6 : w.cell? ⟨q, 6, none⟩ = some (.int .i64 (C.rows : Int)) := by rw [cell_of_row _ _ _ _ _ _ h]; rfl
  generalize C.rows = n at *
  clear h ht
  go_enter Tryz.func14, Tryz.ntmps14
  go_wp2_with fail
  refine KM.mono ?_
  rintro e w' ⟨rfl, rfl⟩
  clear KM
  go_wp2_with fail
  go_ret
  exact ⟨rfl, rfl⟩
theorem row_cell1 {e n : Nat} {a : Option Addr} {k c : Nat} {xs : List Value} (h : w.ownsRow 0 e 1 (.slice a k c) n xs) {j : Nat} {u : Value} (hj : xs[j]? = some u) : ∃ ad : Addr, a = some ad ∧ w.cell? (ad.add j) = some u := by
  rcases h.2 with ⟨e1, hn⟩ | ⟨g, cap, cur, e1, _⟩
  · have h1 := h.1
    rw [hn] at h1
    have : xs = [] := List.eq_nil_of_length_eq_zero (by omega)
    subst this
    simp at hj
  · cases e1
    exact ⟨_, rfl, h.cells (g := g) rfl _ _ hj⟩
theorem cstate_at (h : Side w0 E w) (h1 : (i, OBox q (celO L C)) ∈ E) (h2 : (i + 2, RowT 97 1 L.sv C.st.length (vals C.st)) ∈ E) (ht : 1 ≤ C.t) {m : Nat} {s : Nat × Sv} (hm : C.st[m]? = some s) :
    Calls Tryz.prog 40 #[.pointer (some ⟨q, 0, none⟩), .int .i64 (m : Int)] w fun e w' => e = .returned (Sv.val s.1 s.2) ∧ w = w' := by
  have hq := h.heapO h1
  have KM := cmade_yes hq ht
  obtain ⟨T, hT⟩ := side_thing h h2
  obtain ⟨sa, sc, hsv, _⟩ := ownsRow_form hT.1
  have hr := hT.1
  rw [hsv] at hr
  obtain ⟨sad, rfl, hc⟩ := row_cell1 hr (j := m) (u := Sv.val s.1 s.2) (by unfold vals; rw [List.getElem?_map, hm]; rfl)
  have hlt : m < C.st.length := (List.getElem?_eq_some_iff.1 hm).1
  have c7 : w.cell? ⟨q, 7, none⟩ = some L.sv := by rw [cell_of_row _ _ _ _ _ _ hq]; rfl
  rw [hsv] at c7
  generalize C.st.length = n at *
  have l0 : (0 : Int) ≤ (m : Int) := Int.natCast_nonneg m
  have l1 : (m : Int) < (n : Int) := Int.ofNat_lt.2 hlt
  have t0 : decide ((m : Int) < 0) = false := decide_eq_false (by omega)
  have t1 : decide ((n : Int) ≤ (m : Int)) = false := decide_eq_false (by omega)
  have t2 : ¬ n ≤ m := by omega
  obtain ⟨sv, hsv2⟩ : ∃ x, Sv.val s.1 s.2 = x := ⟨_, rfl⟩
  rw [hsv2] at hc ⊢
  clear h h1 h2 hq hT hr hsv hm hsv2 ht
  go_enter Tryz.func40, Tryz.ntmps40
  go_wp2_with fail
  refine KM.mono ?_
  rintro e w' ⟨rfl, rfl⟩
  clear KM
  go_wp2_with fail
  go_ret
  exact ⟨rfl, rfl⟩
end
/-- do values fit kinds? -/
def fitsL (xs : List VV) (ks : List Int) : Bool := (xs.zip ks).all fun p => fitsV p.2 p.1
theorem fitsL_no {xs : List VV} {ks : List Int} {j : Nat} {v : VV} {k : Int} (hv : xs[j]? = some v) (hk : ks[j]? = some k) (h : fitsV k v = false) : fitsL xs ks = false := by
  unfold fitsL
  rw [List.all_eq_false]
  exact ⟨(v, k), List.mem_of_getElem? (i := j) (by rw [List.getElem?_zip_eq_some]; exact ⟨hv, hk⟩), by simp [h]⟩
theorem fitsL_yes {xs : List VV} {ks : List Int} (h : ∀ (j : Nat) v k, xs[j]? = some v → ks[j]? = some k → fitsV k v = true) : fitsL xs ks = true := by
  unfold fitsL
  rw [List.all_eq_true]
  intro p hp
  obtain ⟨j, hj⟩ := List.getElem?_of_mem hp
  rw [List.getElem?_zip_eq_some] at hj
  exact h j _ _ hj.1 hj.2

end Go.Proofs.YtlhpbfjelgmkeaaGreat
/- Two cells of one shape are alike. Conditions: cells that were made, of the same measures, kinds and settings. -/
set_option maxRecDepth 100000
namespace Go.Proofs.YtlhpbfjelgmkeaaGreat
open Go.RowKit Go.Maps Go.Sort Go.Lib

theorem neq_meaC (w : World) (a : Int) (s : ByteArray) : (binOp .neq 25 (.agg #[.int .i64 a, .string s]) (.agg #[.int .i64 a, .string s])).run Tryz.prog w = .ok (.bool false) w := by
  have hS : Tryz.prog.underlying 25 = some (.struct (Tryz.prog.fieldsOf 25)) := by kernel_rfl
  have hp : Tryz.prog.stoodInHeld 25 = false := by kernel_rfl
  have u3 := Tryz.underlying3
  have u9 := Tryz.underlying9
  rw [run_neq_struct, show (10000 : Nat) = 9999 + 1 from rfl, run_equalIn_agg w 9999 25 _ _ hS hp]
  simp only [Program.fieldsOf, Tryz.underlying25]
  go_simp
theorem guard_meaC (w : World) (o : BinOp) (x y : Operand) (a : Int) (s : ByteArray) (b : Int) (u : ByteArray) : (eqGuard o 25 x y (.agg #[.int .i64 a, .string s]) (.agg #[.int .i64 b, .string u])).run Tryz.prog w = .ok () w :=
  run_eqGuard_agg w o _ x y _ _ (by kernel_rfl)
set_option maxHeartbeats 1600000 in
theorem mequal_same {w : World} {a b : Option Addr} {n c d : Nat} {ms : List (Int × ByteArray)} (h : Holds2 w (.slice a n c) (ms.map meaC)) (g : Holds2 w (.slice b n d) (ms.map meaC)) (hn : ms.length = n) (h7 : n ≤ 1000) :
    Calls Tryz.prog 67 #[.slice a n c, .slice b n d] w (Draws (.bool true) w) := by
  have KN := fun W A B => neq_meaC W A B
  have KG := fun W o x y A B A' B' => guard_meaC W o x y A B A' B'
  have H := Lib.hid h
  have G := Lib.hid g
  have HN := Lib.hid hn
  clear h g hn
  go_enter Tryz.func67, Tryz.ntmps67
  go_wp2_with fail
  go_loopw [5, 13] (fun _ k wr => ∃ (m q : Nat), k = .int .i64 m ∧ m ≤ n ∧ wr = w.drewN q) (fun _ k _ => n - (RowKit.intOf k).toNat)
  case atStart => exact ⟨0, 0, rfl, Nat.zero_le _, (World.drewN_zero _).symm⟩
  case round =>
    obtain ⟨m, q, rfl, hm, rfl⟩ := hrel
    by_cases hlt : m < n
    · obtain ⟨⟨A, B⟩, hm1⟩ : ∃ x, ms[m]? = some x := ⟨_, List.getElem?_eq_getElem (by rw [HN.out]; exact hlt)⟩
      obtain ⟨ad, ha, d0, d1⟩ := H.out.at_ (i := m) (x := meaC (A, B)) (by rw [List.getElem?_map, hm1]; rfl)
      obtain ⟨bd, hb, e0, e1⟩ := G.out.at_ (i := m) (x := meaC (A, B)) (by rw [List.getElem?_map, hm1]; rfl)
      subst ha hb
      unfold meaC at d0 d1 e0 e1
      simp only at d0 d1 e0 e1
      have b0 : (0 : Int) ≤ (m : Int) := by omega
      have b1 : (m : Int) < (n : Int) := by omega
      clear hm1
      go_wp2_with fail
      go_quiet (fail)
      go_wp2_with fail
      go_roundw
      case rel => exact ⟨m + 1, _, by go_num, by omega, rfl⟩
      case measure => simp [RowKit.intOf]; omega
    · go_wp2_with fail
      go_ret
      exact ⟨rfl, _, rfl⟩
end Go.Proofs.YtlhpbfjelgmkeaaGreat
/- Equal kinds, and a row of pairs as it is read. Conditions: cells that were made, of the same measures, kinds and settings. -/
set_option maxRecDepth 100000
namespace Go.Proofs.YtlhpbfjelgmkeaaGreat
open Go.RowKit Go.Maps Go.Sort Go.Lib

theorem iequal_own {w : World} {a b : Option Addr} {n c d : Nat} {ks : List Int} (h : w.ownsRow 0 3 1 (.slice a n c) ks.length (i64s ks)) (g : w.ownsRow 0 3 1 (.slice b n d) ks.length (i64s ks)) (hn : ks.length = n) (h7 : n ≤ 1000) :
    Calls Tryz.prog 68 #[.slice a n c, .slice b n d] w (Draws (.bool true) w) := by
  rcases Nat.eq_zero_or_pos n with h0 | h0
  · subst h0
    refine (Tryz.slices_Equal_int_empty a b c 0 d w (by omega)).mono ?_
    rintro e w' ⟨rfl, rfl⟩
    exact ⟨rfl, 0, (World.drewN_zero _).symm⟩
  · rcases h.2 with ⟨_, e0⟩ | ⟨g1, cap, cur, e1, _⟩
    · omega
    rcases g.2 with ⟨_, e0⟩ | ⟨g2, cap2, cur2, e2, _⟩
    · omega
    cases e1
    cases e2
    have c1 := fun (j : Nat) (hj : j < ks.length) => h.cells (g := g1) rfl j (.int .i64 (ks.getD j 0)) (by unfold i64s; rw [List.getElem?_map, List.getElem?_eq_getElem hj, List.getD_eq_getElem?_getD, List.getElem?_eq_getElem hj]; rfl)
    have c2 := fun (j : Nat) (hj : j < ks.length) => g.cells (g := g2) rfl j (.int .i64 (ks.getD j 0)) (by unfold i64s; rw [List.getElem?_map, List.getElem?_eq_getElem hj, List.getD_eq_getElem?_getD, List.getElem?_eq_getElem hj]; rfl)
    refine (Tryz.slices_Equal_int g1 0 ks.length _ g2 0 ks.length _ ks ks w (Nat.le_refl _) (Nat.le_refl _) (by omega) (by omega) (fun j hj => by simpa [Addr.add_at] using c1 j hj) (fun j hj => by simpa [Addr.add_at] using c2 j hj)).mono ?_
    rintro e w' ⟨rfl, q, rfl⟩
    exact ⟨by simp, q, rfl⟩
theorem holds2_own {w : World} {B e : Nat} {v : Value} {l : List (Value × Value)} {n : Nat} (h : w.ownsRow B e 2 v n (fl2 l)) (hn : l.length = n) : Holds2 w v l := by
  rcases h.2 with ⟨e1, e0⟩ | ⟨g, cap, cur, e1, _, _, h2, _⟩
  · have : l = [] := List.eq_nil_of_length_eq_zero (by omega)
    subst this
    exact ⟨none, 0, e1, Nat.le_refl _, .inl ⟨rfl, rfl, rfl⟩⟩
  · subst hn
    refine ⟨_, cap, e1, h2, .inr ⟨_, rfl, fun i x hx => ?_⟩⟩
    obtain ⟨a0, a1⟩ := fl2_at l i x hx
    have k0 := h.cells (g := g) (by rw [e1]; rfl) _ _ a0
    have k1 := h.cells (g := g) (by rw [e1]; rfl) _ _ a1
    rw [Addr.add_at] at k0 k1 ⊢
    exact ⟨k0, by simpa [Nat.add_assoc] using k1⟩
end Go.Proofs.YtlhpbfjelgmkeaaGreat
/- Two cells of one shape are alike: the call. Conditions: cells that were made, of the same measures, kinds and settings. -/
set_option maxRecDepth 100000
namespace Go.Proofs.YtlhpbfjelgmkeaaGreat
open Go.RowKit Go.Maps Go.Sort Go.Lib

theorem below_cd2 {B : Nat} {a w : World} (h : Below B a w) : Below B a w.drew := ⟨h.os, h.tape, h.output, h.size, h.block⟩
set_option maxHeartbeats 6400000 in
theorem calike_yes {w0 w : World} {E : List (Nat × Thing)} {i i2 q r : Nat} {L L2 : Lay} {C C2 : Cv} (h : Side w0 E w) (h1 : (i, OBox q (celO L C)) ∈ E) (h2 : (i + 1, RowT 25 2 L.mv C.ms.length (fl2 (C.ms.map meaC))) ∈ E) (h3 : (i + 3, RowT 3 1 L.kv C.ks.length (i64s C.ks)) ∈ E) (h4 : (i + 4, SeedT L.g C.S) ∈ E)
    (g1 : (i2, OBox r (celO L2 C2)) ∈ E) (g2 : (i2 + 1, RowT 25 2 L2.mv C2.ms.length (fl2 (C2.ms.map meaC))) ∈ E) (g3 : (i2 + 3, RowT 3 1 L2.kv C2.ks.length (i64s C2.ks)) ∈ E) (g4 : (i2 + 4, SeedT L2.g C2.S) ∈ E)
    (e1 : C2.ms = C.ms) (e2 : C2.ks = C.ks) (e3 : C2.t = C.t) (e4 : C2.S = C.S) (e5 : C2.K = C.K) (e6 : C2.M = C.M) (h16 : C.ms.length ≤ 16) (k16 : C.ks.length ≤ 16) (s16 : C.S.length ≤ 16) :
    Calls Tryz.prog 39 #[.pointer (some ⟨q, 0, none⟩), .pointer (some ⟨r, 0, none⟩)] w fun e w' => e = .returned (.bool true) ∧ Below w.heap.size w w' := by
  have hq := h.heapO h1
  have hr := h.heapO g1
  obtain ⟨T1, t1⟩ := side_thing h h2
  obtain ⟨T2, t2⟩ := side_thing h g2
  obtain ⟨T3, t3⟩ := side_thing h h3
  obtain ⟨T4, t4⟩ := side_thing h g3
  obtain ⟨T5, t5⟩ := side_thing h h4
  obtain ⟨T6, t6⟩ := side_thing h g4
  obtain ⟨Lm, Lk, Lg, Lc, Ls⟩ := L
  obtain ⟨Mm, Mk, Mg, Mc, Ms⟩ := L2
  obtain ⟨ms, ks, t, S, K, M, rows, st⟩ := C
  obtain ⟨ms2, ks2, tt2, S2, K2, M2, rows2, st2⟩ := C2
  simp only at *
  subst e1 e2 e3 e4 e5 e6
  obtain ⟨ma, mc, hm1, _⟩ := ownsRow_form t1.1
  obtain ⟨mb, md, hm2, _⟩ := ownsRow_form t2.1
  obtain ⟨ka, kc, hk1, _⟩ := ownsRow_form t3.1
  obtain ⟨kb, kd, hk2, _⟩ := ownsRow_form t4.1
  subst hm1 hm2 hk1 hk2
  have KM := Lib.hid (fun (W : World) (hW : Below w.heap.size w W) => mequal_same (n := ms2.length) (holds2_own (ownsRow_below t1.1 hW) (by simp)) (holds2_own (ownsRow_below t2.1 hW) (by simp)) rfl (by omega))
  have KK := Lib.hid (fun (W : World) (hW : Below w.heap.size w W) => iequal_own (n := ks2.length) (ownsRow_below t3.1 hW) (ownsRow_below t4.1 hW) rfl (by omega))
  have KS := Lib.hid (fun (W : World) (hW : Below w.heap.size w W) => equal_same (n := S2.length) (c := Lc) (d := Mc) ((SeedT.framed _ _).below t5 hW).2.2 ((SeedT.framed _ _).below t6 hW).2.2 rfl (by omega))
  obtain ⟨nm, hnm⟩ : ∃ n, ms2.length = n := ⟨_, rfl⟩
  obtain ⟨nk, hnk⟩ : ∃ n, ks2.length = n := ⟨_, rfl⟩
  obtain ⟨ns, hns⟩ : ∃ n, S2.length = n := ⟨_, rfl⟩
  unfold celO at hq hr
  simp only at hq hr
  rw [hnm] at KM
  rw [hnk] at KK
  rw [hns] at KS
  rw [hns] at hq hr
  rw [hnm, hnk] at hq hr
  have c0 : w.cell? ⟨q, 0, none⟩ = some (.slice ma nm mc) := by rw [cell_of_row _ _ _ _ _ _ hq]; rfl
  have d0 : w.cell? ⟨r, 0, none⟩ = some (.slice mb nm md) := by rw [cell_of_row _ _ _ _ _ _ hr]; rfl
  have c1 : w.cell? ⟨q, 1, none⟩ = some (.slice ka nk kc) := by rw [cell_of_row _ _ _ _ _ _ hq]; rfl
  have d1 : w.cell? ⟨r, 1, none⟩ = some (.slice kb nk kd) := by rw [cell_of_row _ _ _ _ _ _ hr]; rfl
  have c2 : w.cell? ⟨q, 2, none⟩ = some (.int .i64 (tt2 : Int)) := by rw [cell_of_row _ _ _ _ _ _ hq]; rfl
  have d2 : w.cell? ⟨r, 2, none⟩ = some (.int .i64 (tt2 : Int)) := by rw [cell_of_row _ _ _ _ _ _ hr]; rfl
  have c3 : w.cell? ⟨q, 3, none⟩ = some (.slice (some ⟨Lg, 0, none⟩) ns Lc) := by rw [cell_of_row _ _ _ _ _ _ hq]; rfl
  have d3 : w.cell? ⟨r, 3, none⟩ = some (.slice (some ⟨Mg, 0, none⟩) ns Mc) := by rw [cell_of_row _ _ _ _ _ _ hr]; rfl
  have c4 : w.cell? ⟨q, 4, none⟩ = some (.int .i64 K2) := by rw [cell_of_row _ _ _ _ _ _ hq]; rfl
  have d4 : w.cell? ⟨r, 4, none⟩ = some (.int .i64 K2) := by rw [cell_of_row _ _ _ _ _ _ hr]; rfl
  have c5 : w.cell? ⟨q, 5, none⟩ = some (.int .i64 M2) := by rw [cell_of_row _ _ _ _ _ _ hq]; rfl
  have d5 : w.cell? ⟨r, 5, none⟩ = some (.int .i64 M2) := by rw [cell_of_row _ _ _ _ _ _ hr]; rfl
  have hb1 := fun o => below_c w o
  have hb2 := fun o o' => (hb1 o).trans ((below_c (w.alloc o) o').mono (hb1 o).size)
  have c21 : ∀ o, (w.alloc o).cell? ⟨q, 2, none⟩ = some (.int .i64 (tt2 : Int)) := fun o => by rw [(hb1 o).cell (lt_of_heap hq)]; exact c2
  have d21 : ∀ o, (w.alloc o).cell? ⟨r, 2, none⟩ = some (.int .i64 (tt2 : Int)) := fun o => by rw [(hb1 o).cell (lt_of_heap hr)]; exact d2
  have c22 : ∀ o o', ((w.alloc o).alloc o').cell? ⟨q, 2, none⟩ = some (.int .i64 (tt2 : Int)) := fun o o' => by rw [(hb2 o o').cell (lt_of_heap hq)]; exact c2
  have d22 : ∀ o o', ((w.alloc o).alloc o').cell? ⟨r, 2, none⟩ = some (.int .i64 (tt2 : Int)) := fun o o' => by rw [(hb2 o o').cell (lt_of_heap hr)]; exact d2
  have c31 : ∀ o, (w.alloc o).cell? ⟨q, 3, none⟩ = some (.slice (some ⟨Lg, 0, none⟩) ns Lc) := fun o => by rw [(hb1 o).cell (lt_of_heap hq)]; exact c3
  have d31 : ∀ o, (w.alloc o).cell? ⟨r, 3, none⟩ = some (.slice (some ⟨Mg, 0, none⟩) ns Mc) := fun o => by rw [(hb1 o).cell (lt_of_heap hr)]; exact d3
  have c32 : ∀ o o', ((w.alloc o).alloc o').cell? ⟨q, 3, none⟩ = some (.slice (some ⟨Lg, 0, none⟩) ns Lc) := fun o o' => by rw [(hb2 o o').cell (lt_of_heap hq)]; exact c3
  have d32 : ∀ o o', ((w.alloc o).alloc o').cell? ⟨r, 3, none⟩ = some (.slice (some ⟨Mg, 0, none⟩) ns Mc) := fun o o' => by rw [(hb2 o o').cell (lt_of_heap hr)]; exact d3
  have c41 : ∀ o, (w.alloc o).cell? ⟨q, 4, none⟩ = some (.int .i64 K2) := fun o => by rw [(hb1 o).cell (lt_of_heap hq)]; exact c4
  have d41 : ∀ o, (w.alloc o).cell? ⟨r, 4, none⟩ = some (.int .i64 K2) := fun o => by rw [(hb1 o).cell (lt_of_heap hr)]; exact d4
  have c42 : ∀ o o', ((w.alloc o).alloc o').cell? ⟨q, 4, none⟩ = some (.int .i64 K2) := fun o o' => by rw [(hb2 o o').cell (lt_of_heap hq)]; exact c4
  have d42 : ∀ o o', ((w.alloc o).alloc o').cell? ⟨r, 4, none⟩ = some (.int .i64 K2) := fun o o' => by rw [(hb2 o o').cell (lt_of_heap hr)]; exact d4
  have c51 : ∀ o, (w.alloc o).cell? ⟨q, 5, none⟩ = some (.int .i64 M2) := fun o => by rw [(hb1 o).cell (lt_of_heap hq)]; exact c5
  have d51 : ∀ o, (w.alloc o).cell? ⟨r, 5, none⟩ = some (.int .i64 M2) := fun o => by rw [(hb1 o).cell (lt_of_heap hr)]; exact d5
  have c52 : ∀ o o', ((w.alloc o).alloc o').cell? ⟨q, 5, none⟩ = some (.int .i64 M2) := fun o o' => by rw [(hb2 o o').cell (lt_of_heap hq)]; exact c5
  have d52 : ∀ o o', ((w.alloc o).alloc o').cell? ⟨r, 5, none⟩ = some (.int .i64 M2) := fun o o' => by rw [(hb2 o o').cell (lt_of_heap hr)]; exact d5
  clear hb1 hb2
  have HQ := Lib.hid (fun (W : World) (hW : Below w.heap.size w W) => And.intro ((hW.block _ (lt_of_heap hq)).trans hq) ((hW.block _ (lt_of_heap hr)).trans hr))
  clear h h1 h2 h3 h4 g1 g2 g3 g4 t1 t2 t3 t4 t5 t6 h16 k16 s16 hnm hnk hns
  go_enter Tryz.func39, Tryz.ntmps39
  go_upto_region 1 with (fail)
  go_cut [5, 6] from 7 to 14 (fun u5 u6 wx => Hid (∃ B5 B6, u5 = .pointer (some ⟨B5, 0, none⟩) ∧ u6 = .pointer (some ⟨B6, 0, none⟩) ∧ Below w.heap.size w wx ∧ wx.heap[B5]? = some (.cells #[.int .i64 (tt2 : Int), .slice (some ⟨Lg, 0, none⟩) ns Lc, .int .i64 K2, .int .i64 M2] 32 (0, 0)) ∧ wx.heap[B6]? = some (.cells #[.int .i64 (tt2 : Int), .slice (some ⟨Mg, 0, none⟩) ns Mc, .int .i64 K2, .int .i64 M2] 32 (0, 0))))
  case first =>
    have hz : ∀ o, (w.alloc o).heap.size = w.heap.size + 1 := fun o => by simp
    have hbb := fun (o o' : Obj) => below_cd2 ((below_c w o).trans ((below_c (w.alloc o) o').mono (below_c w o).size))
    have hn1 := fun (o o' : Obj) => ((below_c (w.alloc o) o').block _ (by rw [hz]; omega)).trans (heap_alloc_new w o)
    have hn2 := fun (o o' : Obj) => (by have := heap_alloc_new (w.alloc o) o'; rwa [hz] at this : ((w.alloc o).alloc o').heap[w.heap.size + 1]? = some o')
    have HH := Lib.hid (And.intro hbb (And.intro hn1 hn2))
    clear hz hbb hn1 hn2
    go_region
    all_goals (go_wp2_with fail; go_meet)
    case _ => exact Lib.hid ⟨_, _, rfl, rfl, HH.out.1 _ _, HH.out.2.1 _ _, HH.out.2.2 _ _⟩
    case _ => exact Lib.hid ⟨_, _, rfl, rfl, HH.out.1 _ _, HH.out.2.2 _ _, HH.out.2.1 _ _⟩
  case rest =>
    obtain ⟨B5, B6, rfl, rfl, hbw, h5, h6⟩ := hcut.out
    have k1 := fun n => KM.out (wc.drewN n) (below_dN hbw n)
    have k2 := fun n => KK.out (wc.drewN n) (below_dN hbw n)
    have k3 := fun n => KS.out (wc.drewN n) (below_dN hbw n)
    obtain ⟨hq2, hr2⟩ := HQ.out wc hbw
    have c0 : wc.cell? ⟨q, 0, none⟩ = some (.slice ma nm mc) := by rw [cell_of_row _ _ _ _ _ _ hq2]; rfl
    have c1 : wc.cell? ⟨q, 1, none⟩ = some (.slice ka nk kc) := by rw [cell_of_row _ _ _ _ _ _ hq2]; rfl
    have d0 : wc.cell? ⟨r, 0, none⟩ = some (.slice mb nm md) := by rw [cell_of_row _ _ _ _ _ _ hr2]; rfl
    have d1 : wc.cell? ⟨r, 1, none⟩ = some (.slice kb nk kd) := by rw [cell_of_row _ _ _ _ _ _ hr2]; rfl
    have a0 : wc.cell? ⟨B5, 0, none⟩ = some (.int .i64 (tt2 : Int)) := by rw [cell_of_row _ _ _ _ _ _ h5]; rfl
    have a1 : wc.cell? ⟨B5, 1, none⟩ = some (.slice (some ⟨Lg, 0, none⟩) ns Lc) := by rw [cell_of_row _ _ _ _ _ _ h5]; rfl
    have a2 : wc.cell? ⟨B5, 2, none⟩ = some (.int .i64 K2) := by rw [cell_of_row _ _ _ _ _ _ h5]; rfl
    have a3 : wc.cell? ⟨B5, 3, none⟩ = some (.int .i64 M2) := by rw [cell_of_row _ _ _ _ _ _ h5]; rfl
    have b0 : wc.cell? ⟨B6, 0, none⟩ = some (.int .i64 (tt2 : Int)) := by rw [cell_of_row _ _ _ _ _ _ h6]; rfl
    have b1 : wc.cell? ⟨B6, 1, none⟩ = some (.slice (some ⟨Mg, 0, none⟩) ns Mc) := by rw [cell_of_row _ _ _ _ _ _ h6]; rfl
    have b2 : wc.cell? ⟨B6, 2, none⟩ = some (.int .i64 K2) := by rw [cell_of_row _ _ _ _ _ _ h6]; rfl
    have b3 : wc.cell? ⟨B6, 3, none⟩ = some (.int .i64 M2) := by rw [cell_of_row _ _ _ _ _ _ h6]; rfl
    unfold Draws at k1 k2 k3
    have K1 := Lib.hid k1
    have K2' := Lib.hid k2
    have K3 := Lib.hid k3
    have HBW := Lib.hid hbw
    clear hcut hbw h5 h6 hq2 hr2 k1 k2 k3 HQ KM KK KS
    go_wp2_with fail
    go_quiet ((first | exact Calls.quiet_of (K1.out _) | exact Calls.quiet_of (K2'.out _) | exact Calls.quiet_of (K3.out _)))
    go_wp2_with fail
    go_ret
    exact ⟨rfl, below_dN HBW.out _⟩
end Go.Proofs.YtlhpbfjelgmkeaaGreat
