/- The calls of a dictionary where several things stand side by side; the document's examples hold in any world. Conditions: none. -/
import Derived.Test.YtdbaeghhlhkobaaDictRoomA
import Derived.ProofKit
import Derived.OpenShut
import Derived.ChangeOld
set_option maxRecDepth 100000
namespace Go.Proofs.Ytdbaeghhlhkobaa
open Go.RowKit Go.Maps Go.Sort Go.Lib Go.Shelf

theorem own : ownKnob Try.prog.godebug = none := by kernel_rfl
theorem laidOut : laidOutB Try.prog = true := by kernel_rfl
theorem valueCells : Try.prog.cellsOf 29 = 3 := by kernel_rfl

section
variable {w0 w : World} {E : List (Nat × Thing)} {i : Nat} {q : Nat} {K : Int} {L : List VV}
theorem side_thing (h : Side w0 E w) {A : Thing} (hx : (i, A) ∈ E) : ∃ T, A T i w := by
  obtain ⟨T, h⟩ := h
  exact ⟨T, (h.at_ _ hx).2⟩
theorem side_dk (h : Side w0 E w) (hx : (i, Dt q K L) ∈ E) : ∃ T b v, DkAt T i w q K b v L := by
  obtain ⟨T, b, v, h⟩ := side_thing h hx
  exact ⟨T, b, v, h⟩
theorem side_dnew (h : Side w0 E w) (i : Nat) {K : Int} (h1 : 1 ≤ K) (h4 : K ≤ 4) :
    Calls Try.prog 8 #[.int .i64 K] w fun e w' => ∃ q, e = .returned (.pointer (some ⟨q, 0, none⟩)) ∧ Hid (Side w0 ((i, Dt q K []) :: E) w') :=
  h.make i (fun q => Dt q K []) (fun q => Dt.framed q K []) (R := fun q e => e = .returned (.pointer (some ⟨q, 0, none⟩))) fun T _ => dnew_any h1 h4 T i w
theorem side_dadd (h : Side w0 ((i, Dt q K L) :: E) w) (hi : ∀ e ∈ E, e.1 ≠ i) {x : VV} (hx : x.ty) :
    Calls Try.prog 15 #[.pointer (some ⟨q, 0, none⟩), x.val] w fun e w' => e = .returned (.tuple #[.int .i64 (addI K L x), .int .i64 (addE K L x)]) ∧ Hid (Side w0 ((i, Dt q K (addL K L x)) :: E) w') :=
  (h.step hi (Dt.framed q K (addL K L x)) (Pr := fun e => e = .returned (.tuple #[.int .i64 (addI K L x), .int .i64 (addE K L x)])) fun _ _ hA => (dadd_any (hA _ (List.mem_cons_self ..)) hx).mono fun _ _ ⟨a, b⟩ => ⟨a, b.out⟩).mono fun _ _ ⟨a, b⟩ => ⟨a, Lib.hid b⟩
theorem side_dcopy (h : Side w0 E w) (hx : (i, Dt q K L) ∈ E) (j : Nat) :
    Calls Try.prog 11 #[.pointer (some ⟨q, 0, none⟩)] w fun e w' => ∃ r, e = .returned (.pointer (some ⟨r, 0, none⟩)) ∧ Hid (Side w0 ((j, Dt r K L) :: E) w') :=
  h.make j (fun r => Dt r K L) (fun r => Dt.framed r K L) (R := fun r e => e = .returned (.pointer (some ⟨r, 0, none⟩))) fun _ hA => dcopy_any (hA _ hx)
theorem side_dlen (h : Side w0 E w) (hx : (i, Dt q K L) ∈ E) : Calls Try.prog 22 #[.pointer (some ⟨q, 0, none⟩)] w fun e w' => e = .returned (.int .i64 L.length) ∧ w = w' := by
  obtain ⟨T, b, v, h⟩ := side_dk h hx
  exact dlen_any h
theorem side_dkind (h : Side w0 E w) (hx : (i, Dt q K L) ∈ E) : Calls Try.prog 23 #[.pointer (some ⟨q, 0, none⟩)] w fun e w' => e = .returned (.int .i64 K) ∧ w = w' := by
  obtain ⟨T, b, v, h⟩ := side_dk h hx
  exact dkind_any h
theorem side_dvalue (h : Side w0 E w) (hx : (i, Dt q K L) ∈ E) (id : Int) : Calls Try.prog 17 #[.pointer (some ⟨q, 0, none⟩), .int .i64 id] w fun e w' => e = .returned (.tuple #[((atV L id).getD VV.none_).val, .bool (atV L id).isSome]) ∧ Below w.heap.size w w' := by
  obtain ⟨T, b, v, h⟩ := side_dk h hx
  exact dvalue_any h id
theorem side_dfind (h : Side w0 E w) (hx : (i, Dt q K L) ∈ E) {x : VV} (ht : x.ty) : Calls Try.prog 13 #[.pointer (some ⟨q, 0, none⟩), x.val] w fun e w' => e = .returned (.tuple #[.int .i64 (((posV L x).getD 0 : Nat) : Int), .bool (posV L x).isSome]) ∧ Below w.heap.size w w' := by
  obtain ⟨T, b, v, h⟩ := side_dk h hx
  exact dfind_any h ht
theorem side_droom (h : Side w0 E w) (hx : (i, Dt q K L) ∈ E) {v : Value} {xs : List VV} (hv : HoldsV w v xs) (ht : TyAll xs) (hl : xs.length ≤ 1000000) :
    Calls Try.prog 20 #[.pointer (some ⟨q, 0, none⟩), v] w fun e w' => e = .returned (.bool (roomV K L xs)) ∧ Below w.heap.size w w' := by
  obtain ⟨T, h⟩ := side_thing h hx
  exact droom_any h hv ht hl
theorem side_dvalues (h : Side w0 E w) (hx : (i, Dt q K L) ∈ E) : Calls Try.prog 24 #[.pointer (some ⟨q, 0, none⟩)] w (ClonedV w L) := by
  obtain ⟨T, b, v, h⟩ := side_dk h hx
  exact dvalues_any h
theorem side_len (h : Side w0 E w) (hx : (i, Dt q K L) ∈ E) : L.length ≤ 512 := by
  obtain ⟨T, b, v, h⟩ := side_dk h hx
  exact h.len
theorem side_c0 (h : Side w0 E w) (hx : (i, Dt q K L) ∈ E) : w.cell? ⟨q, 0, none⟩ = some (.int .i64 K) := by
  obtain ⟨T, b, v, h⟩ := side_dk h hx
  exact h.cells.1
/-- a box's cells -/
theorem side_box {c : Nat} {x y z : Value} {t : Nat} (h : Side w0 E w) (hx : (i, Box c (.cells #[x, y, z] t (0, 0))) ∈ E) : w.cell? ⟨c, 0, none⟩ = some x ∧ w.cell? ⟨c, 1, none⟩ = some y ∧ w.cell? ⟨c, 2, none⟩ = some z := by
  have := h.heap hx
  exact ⟨by rw [cell_of_row _ _ _ _ _ _ this]; rfl, by rw [cell_of_row _ _ _ _ _ _ this]; rfl, by rw [cell_of_row _ _ _ _ _ _ this]; rfl⟩
end
theorem str_any (s : ByteArray) (w : World) : Calls Try.prog 25 #[.string s] w fun e w' => e = .returned (vv 3 0 s) ∧ Below w.heap.size w w' := by
  go_enter Try.func25, Try.ntmps25
  go_wp2_with fail
  refine bodyPost_ret (v := vv 3 0 s) ?_ rfl ⟨rfl, ?_⟩
  · simp [results, Try.results25, go_sem]
  · exact (Below.refl _ _).alloc (Nat.le_refl _) _
def xA : VV := ⟨3, 0, ⟨#[97]⟩⟩
def xB : VV := ⟨3, 0, ⟨#[98]⟩⟩
theorem tyS (s : ByteArray) (h : s.size ≤ 1000) : (VV.mk 3 0 s).ty := ⟨⟨by simp, by simp⟩, ⟨by simp, by simp⟩, by unfold maxLen; show s.size ≤ _; omega⟩
theorem xA_ne : xA ≠ xB := fun h => by
  have := congrArg (fun x : VV => x.s.data.toList) h
  simp [xA, xB] at this
theorem okA : okV 3 xA = true := by kernel_rfl
theorem okB : okV 3 xB = true := by kernel_rfl
theorem okN : okV 3 VV.none_ = false := by kernel_rfl
theorem posBA : posV [xA] xB = none := pos_none.2 (by simp [xA_ne.symm])
theorem posAAB : posV [xA, xB] xA = some 0 := by unfold posV; rw [is_self]; rfl
theorem add1 : addI 3 [] xA = 0 ∧ addE 3 [] xA = 0 ∧ addL 3 [] xA = [xA] := by unfold addI addE addL; rw [okA]; simp [posV]
theorem add2 : addI 3 [xA] xB = 1 ∧ addE 3 [xA] xB = 0 ∧ addL 3 [xA] xB = [xA, xB] := by unfold addI addE addL; rw [okB, posBA]; simp
theorem add3 : addI 3 [xA, xB] xA = 0 ∧ addE 3 [xA, xB] xA = 0 ∧ addL 3 [xA, xB] xA = [xA, xB] := by unfold addI addE addL; rw [okA, posAAB]; simp
theorem add4 : addI 3 [xA, xB] VV.none_ = 0 ∧ addE 3 [xA, xB] VV.none_ = 12 ∧ addL 3 [xA, xB] VV.none_ = [xA, xB] := by unfold addI addE addL; rw [okN]; simp

def livesB (c : Nat) : Thing := Box c (.cells #[.int .i64 3, .int .i64 0, .string ⟨#[98]⟩] 29)
theorem lives_state {w W : World} {q c : Nat} (h : Side w [(1, Dt q 3 [xA, xB]), (2, livesB c)] W) :
    W.cell? ⟨c, 0, none⟩ = some (.int .i64 3) ∧ W.cell? ⟨c, 1, none⟩ = some (.int .i64 0) ∧ W.cell? ⟨c, 2, none⟩ = some (.string ⟨#[98]⟩) ∧ W.cell? ⟨q, 0, none⟩ = some (.int .i64 3) := by
  obtain ⟨a, b, c⟩ := side_box h (i := 2) (List.mem_cons_of_mem _ (List.mem_cons_self ..))
  exact ⟨a, b, c, side_c0 h (List.mem_cons_self ..)⟩
set_option maxHeartbeats 3200000 in
theorem lives_any (w : World) : Calls Try.prog 10 #[] w fun e w' => e = .returned (.bool true) ∧ Below w.heap.size w w' := by
  have KN := side_dnew (Side.nil w) 1 (K := 3) (by decide) (by decide)
  have KS := str_any
  have KE : ∀ W, (binOp .eql 29 (.agg #[.int .i64 3, .int .i64 0, .string ⟨#[98]⟩]) (.agg #[.int .i64 3, .int .i64 0, .string ⟨#[98]⟩])).run Try.prog W = .ok (.bool true) W := fun W => by
    have := eql_val W 3 0 ⟨#[98]⟩ 3 0 ⟨#[98]⟩
    have es : sameV 3 0 ⟨#[98]⟩ 3 0 ⟨#[98]⟩ = true := by simp [sameV]
    rwa [es] at this
  have KU := guard_val
  go_enter Try.func10, Try.ntmps10
  go_wp2_with fail
  refine KN.mono ?_
  rintro e w1 ⟨q, rfl, h1⟩
  clear KN
  go_wp2_with fail
  refine (KS _ _).mono ?_
  rintro e w2 ⟨rfl, hb⟩
  have KA := side_dadd (h1.out.below hb) (fun _ h => by cases h) (x := xA) (tyS _ (by decide))
  rw [add1.1, add1.2.1, add1.2.2] at KA
  clear hb h1
  go_wp2_with fail
  refine KA.mono ?_
  rintro e w3 ⟨rfl, h2⟩
  clear KA
  go_wp2_with fail
  refine (KS _ _).mono ?_
  rintro e w4 ⟨rfl, hb⟩
  have KA := side_dadd (h2.out.below hb) (fun _ h => by cases h) (x := xB) (tyS _ (by decide))
  rw [add2.1, add2.2.1, add2.2.2] at KA
  clear hb h2
  go_wp2_with fail
  refine KA.mono ?_
  rintro e w5 ⟨rfl, h3⟩
  clear KA
  go_wp2_with fail
  refine (KS _ _).mono ?_
  rintro e w6 ⟨rfl, hb⟩
  have KA := side_dadd (h3.out.below hb) (fun _ h => by cases h) (x := xA) (tyS _ (by decide))
  rw [add3.1, add3.2.1, add3.2.2] at KA
  clear hb h3
  go_wp2_with fail
  refine KA.mono ?_
  rintro e w7 ⟨rfl, h4⟩
  have KV : Calls Try.prog 17 #[.pointer (some ⟨q, 0, none⟩), .int .i64 1] w7 fun e w' => e = .returned (.tuple #[vv 3 0 ⟨#[98]⟩, .bool true]) ∧ Below w7.heap.size w7 w' := side_dvalue h4.out (List.mem_cons_self ..) 1
  clear KA
  go_wp2_with fail
  refine KV.mono ?_
  rintro e w8 ⟨rfl, hb⟩
  have h5 := Side.sub (E' := [(1, Dt q 3 [xA, xB]), (2, livesB w8.heap.size)]) ((h4.out.below hb).alloc 2 (.cells #[.int .i64 3, .int .i64 0, .string ⟨#[98]⟩] 29)) (by simp [livesB])
  have KA1 : Calls Try.prog 15 #[.pointer (some ⟨q, 0, none⟩), vv 0 0 ⟨#[]⟩] (w8.alloc (.cells #[.int .i64 3, .int .i64 0, .string ⟨#[98]⟩] 29)) fun e w' => e = .returned (.tuple #[.int .i64 ((0 : Nat) : Int), .int .i64 12]) ∧ Hid (Side w [(1, Dt q 3 [xA, xB]), (2, livesB w8.heap.size)] w') := by
    have := side_dadd h5 (by simp) (x := VV.none_) ty_none
    rw [add4.1, add4.2.1, add4.2.2] at this
    exact this
  clear hb h4 KV h5
  go_wp2_with fail
  refine KA1.mono ?_
  rintro e w9 ⟨rfl, h6⟩
  clear KA1
  go_wp2_with fail
  refine wp_region_mix (fun W => W.cell? ⟨w8.heap.size, 0, none⟩ = some (.int .i64 3) ∧ W.cell? ⟨w8.heap.size, 1, none⟩ = some (.int .i64 0) ∧ W.cell? ⟨w8.heap.size, 2, none⟩ = some (.string ⟨#[98]⟩) ∧ W.cell? ⟨q, 0, none⟩ = some (.int .i64 3)) 36 [(true, 0), (true, 1), (true, 2), (true, 3), (true, 4), (true, 5), (true, 6), (true, 7), (true, 8), (true, 9), (true, 10), (true, 11), (true, 12), (true, 13), (true, 14), (true, 15), (true, 16), (true, 17), (true, 18), (true, 19), (true, 20), (true, 21), (true, 22), (false, 23), (true, 24), (true, 25), (true, 26), (true, 27), (true, 28), (true, 29), (true, 30), (true, 31), (false, 32), (true, 33), (true, 34), (true, 35)] (by kernel_rfl) (by decide +kernel) rfl (by decide +kernel) (lives_state h6.out.drew) ?_
  iterate 23
    refine wpMix_take (v := ?_) rfl rfl ?_ ?_
    rotate_left
    · (intro W hW; (try dsimp only at hW); go_simp) <;> with_reducible rfl
    simp only [Act.put, List.setIfInBounds_toArray, List.set_cons_zero, List.set_cons_succ]
  refine wpMix_run rfl ?_
  intro K' hK
  go_wp2_with fail
  refine (KS _ _).mono ?_
  rintro e w10 ⟨rfl, hb⟩
  have h7 := Lib.hid (h6.out.drew.below hb)
  have KK := side_dkind h7.out (List.mem_cons_self ..)
  clear hb h6
  go_wp2_with fail
  refine hK.out _ _ (fun _ => lives_state h7.out) ?_
  clear hK K'
  iterate 8
    refine wpMix_take (v := ?_) rfl rfl ?_ ?_
    rotate_left
    · (intro W hW; (try dsimp only at hW); go_simp) <;> with_reducible rfl
    simp only [Act.put, List.setIfInBounds_toArray, List.set_cons_zero, List.set_cons_succ]
  refine wpMix_run rfl ?_
  intro K' hK
  go_wp2_with fail
  refine KK.mono ?_
  rintro e w11 ⟨rfl, rfl⟩
  go_wp2_with fail
  refine hK.out _ _ (fun _ => lives_state h7.out) ?_
  clear hK K' KK
  iterate 3
    refine wpMix_take (v := ?_) rfl rfl ?_ ?_
    rotate_left
    · (intro W hW; (try dsimp only at hW); go_simp) <;> with_reducible rfl
    simp only [Act.put, List.setIfInBounds_toArray, List.set_cons_zero, List.set_cons_succ]
  refine wpMix_nil ?_
  have FIN := Lib.hid h7.out.base
  clear h7
  go_wp2_with fail
  go_ret
  exact ⟨rfl, FIN.out⟩
end Go.Proofs.Ytdbaeghhlhkobaa
