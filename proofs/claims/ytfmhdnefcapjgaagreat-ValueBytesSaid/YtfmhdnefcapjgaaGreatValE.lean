/- The document's examples of values hold in any world whose search bound is some number; logic of three truths. Conditions: as stated. -/
import Derived.Test.YtfmhdnefcapjgaaGreatValD
import Derived.ProofKit
import Derived.OpenShut
import Derived.ChangeOld
import Derived.Shelf.Vars
set_option maxRecDepth 100000
namespace Go.Proofs.YtfmhdnefcapjgaaGreat
open Go.RowKit Go.Lib

theorem own : ownKnob Tryz.prog.godebug = none := by kernel_rfl
theorem laidOut : laidOutB Tryz.prog = true := by kernel_rfl
theorem valueCells : Tryz.prog.cellsOf 37 = 3 := by kernel_rfl
theorem maxOk {w : World} (h : w.ShapedOpen Tryz.prog) : MaxOk w :=
  Go.Proofs.cell_of_shapedOpen_int (zero := #[.int .i64 0]) (t := 3) h (of_decide_eq_true (by kernel_rfl)) (by kernel_rfl) rfl (by kernel_rfl) (by kernel_rfl) Tryz.underlying3

theorem quote_its : quoteB ⟨#[105, 116, 39, 115]⟩ = ⟨#[39, 105, 116, 39, 39, 115, 39]⟩ := by kernel_rfl
set_option maxHeartbeats 1000000 in
theorem lives_any (w : World) (h : MaxOk w) : Calls Tryz.prog 6 #[] w fun e w' => e = .returned (.bool true) ∧ Below w.heap.size w w' := by
  have KT := text_str 0 ⟨#[105, 116, 39, 115]⟩ (by decide)
  rw [quote_its] at KT
  have KA : ∀ w, Calls Tryz.prog 13 #[.int .i64 (-1), .int .i64 0] w fun e w' => e = .returned (.int .i64 0) ∧ w' = w := and_any (-1) 0
  have KO : ∀ w, Calls Tryz.prog 15 #[.int .i64 (-1), .int .i64 0] w fun e w' => e = .returned (.int .i64 (-1)) ∧ w' = w := or_any (-1) 0
  have KC : ∀ w, Calls Tryz.prog 21 #[vv 0 0 ⟨#[]⟩, vv 1 0 ⟨#[]⟩] w fun e w' => e = .returned (.int .i64 (-1)) ∧ Below w.heap.size w w' := vcmp_any 0 0 ⟨#[]⟩ 1 0 ⟨#[]⟩ (by decide) (by decide) (by decide) (by decide)
  have KG : ∀ w, Calls Tryz.prog 24 #[vv 0 0 ⟨#[]⟩] w fun e w' => e = .returned (.bool true) ∧ Below w.heap.size w w' := fun w => by
    have := vgood_any 0 0 ⟨#[]⟩ (by decide) (by decide) w
    have e : goodV 0 0 ⟨#[]⟩ = true := by unfold goodV; simp [Lib.toList_data]
    rwa [e] at this
  go_enter Tryz.func6, Tryz.ntmps6
  go_wp2_with fail
  refine (KT _ h).mono ?_
  rintro e w2 ⟨rfl, hb0⟩
  clear h KT
  go_wp2_with fail
  refine (KA _).mono ?_
  rintro e w3 ⟨rfl, rfl⟩
  go_wp2_with fail
  refine (KO _).mono ?_
  rintro e w4 ⟨rfl, rfl⟩
  go_wp2_with fail
  refine (KC _).mono ?_
  rintro e w5 ⟨rfl, hb⟩
  replace hb0 := hb0.trans (hb.mono hb0.size)
  clear hb
  go_wp2_with fail
  refine (KG _).mono ?_
  rintro e w6 ⟨rfl, hb⟩
  replace hb0 := hb0.trans (hb.mono hb0.size)
  clear hb
  go_wp2_with fail
  go_ret
  exact ⟨rfl, hb0⟩
theorem logic_walk (a b : Int) (w : World) (h : MaxOk w) : Calls Tryz.prog 4 #[.int .i64 a, .int .i64 b] w fun e w' => e = .returned (.bool true) ∧ Below w.heap.size w w' := by
  have KA := fun w => and_any a b w
  have KA' := fun w => refAnd_any a b w
  have KO := fun w => or_any a b w
  have KO' := fun w => refOr_any a b w
  have KN := fun w => not_any a w
  have KN' := fun w => refNot_any a w
  have KT := fun w => ofT_any a w
  have KT' := fun w => refOfT_any a w
  have KL := lives_any
  have KE := eql_val
  have KU := guard_val
  have es : ∀ k n : Int, ∀ s : ByteArray, sameV k n s k n s = true := fun k n s => by simp [sameV]
  generalize andV a b = A at *
  generalize orV a b = O at *
  generalize notV a = N at *
  generalize ofK a = K at *
  generalize ofN a = M at *
  have e1 : (A == A) = true := by simp
  have e2 : (O == O) = true := by simp
  have e3 : (N == N) = true := by simp
  go_enter Tryz.func4, Tryz.ntmps4
  go_wp2_with fail
  refine (KA _).mono ?_
  rintro e w3 ⟨rfl, rfl⟩
  go_wp2_with fail
  refine (KA' _).mono ?_
  rintro e w3 ⟨rfl, rfl⟩
  go_wp2_with fail
  refine (KO _).mono ?_
  rintro e w3 ⟨rfl, rfl⟩
  go_wp2_with fail
  refine (KO' _).mono ?_
  rintro e w3 ⟨rfl, rfl⟩
  go_wp2_with fail
  refine (KN _).mono ?_
  rintro e w3 ⟨rfl, rfl⟩
  go_wp2_with fail
  refine (KN' _).mono ?_
  rintro e w3 ⟨rfl, rfl⟩
  go_wp2_with fail
  refine (KT _).mono ?_
  rintro e w4 ⟨rfl, hb0⟩
  replace h := h.below hb0
  go_wp2_with fail
  refine (KT' _).mono ?_
  rintro e w5 ⟨rfl, hb⟩
  replace h := h.below hb
  replace hb0 := hb0.trans (hb.mono hb0.size)
  clear hb
  go_wp2_with fail
  refine (KL _ h).mono ?_
  rintro e w6 ⟨rfl, hb⟩
  replace hb0 := hb0.trans (hb.mono hb0.size)
  clear hb
  go_wp2_with fail
  go_ret
  exact ⟨rfl, hb0⟩
theorem three_state {w w' : World} {k n : Int} {s : ByteArray} {k' n' : Int} {s' : ByteArray} {q m : Int} {r : ByteArray}
    (hb : Below (w.heap.size + 3) (((w.alloc (.cells #[.int .i64 k, .int .i64 n, .string s] 37)).alloc (.cells #[.int .i64 k', .int .i64 n', .string s'] 37)).alloc (.cells #[.int .i64 q, .int .i64 m, .string r] 37)) w') :
    (w'.cell? ⟨w.heap.size, 0, none⟩ = some (.int .i64 k) ∧ w'.cell? ⟨w.heap.size, 1, none⟩ = some (.int .i64 n) ∧ w'.cell? ⟨w.heap.size, 2, none⟩ = some (.string s) ∧
      w'.cell? ⟨w.heap.size + 1, 0, none⟩ = some (.int .i64 k') ∧ w'.cell? ⟨w.heap.size + 1, 1, none⟩ = some (.int .i64 n') ∧ w'.cell? ⟨w.heap.size + 1, 2, none⟩ = some (.string s') ∧
      w'.cell? ⟨w.heap.size + 1 + 1, 0, none⟩ = some (.int .i64 q) ∧ w'.cell? ⟨w.heap.size + 1 + 1, 1, none⟩ = some (.int .i64 m) ∧ w'.cell? ⟨w.heap.size + 1 + 1, 2, none⟩ = some (.string r)) ∧ Below w.heap.size w w' := by
  have b1 := (Below.refl w.heap.size w).alloc (Nat.le_refl _) (.cells #[.int .i64 k, .int .i64 n, .string s] 37)
  have c1 := C3.new w (.int .i64 k) (.int .i64 n) (.string s) 37
  have z1 : (w.alloc (.cells #[.int .i64 k, .int .i64 n, .string s] 37)).heap.size = w.heap.size + 1 := by simp
  generalize (w.alloc (.cells #[.int .i64 k, .int .i64 n, .string s] 37)) = w1 at *
  have b2 := (Below.refl w1.heap.size w1).alloc (Nat.le_refl _) (.cells #[.int .i64 k', .int .i64 n', .string s'] 37)
  have c2 := C3.new w1 (.int .i64 k') (.int .i64 n') (.string s') 37
  have z2 : (w1.alloc (.cells #[.int .i64 k', .int .i64 n', .string s'] 37)).heap.size = w1.heap.size + 1 := by simp
  generalize (w1.alloc (.cells #[.int .i64 k', .int .i64 n', .string s'] 37)) = w2 at *
  have b3 := (Below.refl w2.heap.size w2).alloc (Nat.le_refl _) (.cells #[.int .i64 q, .int .i64 m, .string r] 37)
  have c3 := C3.new w2 (.int .i64 q) (.int .i64 m) (.string r) 37
  have z3 : (w2.alloc (.cells #[.int .i64 q, .int .i64 m, .string r] 37)).heap.size = w2.heap.size + 1 := by simp
  generalize (w2.alloc (.cells #[.int .i64 q, .int .i64 m, .string r] 37)) = w3 at *
  have d1 := ((c1.keep b2 (by omega)).keep b3 (by omega)).keep hb (by omega)
  have d2 := (c2.keep b3 (by omega)).keep hb (by omega)
  have d3 := c3.keep hb (by omega)
  rw [z1] at d2
  rw [z2, z1] at d3
  exact ⟨⟨d1.1, d1.2.1, d1.2.2, d2.1, d2.2.1, d2.2.2, d3.1, d3.2.1, d3.2.2⟩, ((b1.trans (b2.mono (by omega))).trans (b3.mono (by omega))).trans (hb.mono (by omega))⟩
theorem three_next {w w1 w2 : World} {o o1 o2 : Obj} (hb : Below (w.heap.size + 3) (((w.alloc o).alloc o1).alloc o2) w1) (hk : Below w1.heap.size w1 w2) : Below (w.heap.size + 3) (((w.alloc o).alloc o1).alloc o2) w2 := by
  have hz : (((w.alloc o).alloc o1).alloc o2).heap.size = w.heap.size + 3 := by simp
  have := hb.size
  exact hb.trans (hk.mono (by omega))
set_option maxHeartbeats 2000000 in
theorem cmps_walk (k n : Int) (s : ByteArray) (k' n' : Int) (s' : ByteArray) (q m : Int) (r : ByteArray) (h0 : -9223372036854775808 ≤ n) (h1 : n < 9223372036854775808) (h2 : -9223372036854775808 ≤ n') (h3 : n' < 9223372036854775808) (h4 : -9223372036854775808 ≤ m) (h5 : m < 9223372036854775808) (w : World) (h : MaxOk w) :
    Calls Tryz.prog 5 #[vv k n s, vv k' n' s', vv q m r] w fun e w' => e = .returned (.bool true) ∧ Below w.heap.size w w' := by
  have KAB := fun w => vcmp_any k n s k' n' s' h0 h1 h2 h3 w
  have KRB := fun w => refvcmp_any k n s k' n' s' h0 h1 h2 h3 w
  have KBA := fun w => vcmp_any k' n' s' k n s h2 h3 h0 h1 w
  have KBC := fun w => vcmp_any k' n' s' q m r h2 h3 h4 h5 w
  have KAC := fun w => vcmp_any k n s q m r h0 h1 h4 h5 w
  have hsw := cmpV_swap k n s k' n' s'
  have htr := cmpV_trans k n s k' n' s' q m r
  have hbd : ∀ k n s k' n' s', -1 ≤ cmpV k n s k' n' s' ∧ cmpV k n s k' n' s' ≤ 1 := fun k n s k' n' s' => by
    have e1 : ∀ a b, -1 ≤ cmpI a b ∧ cmpI a b ≤ 1 := fun a b => by unfold cmpI; split <;> first | omega | (split <;> omega)
    have e2 : ∀ a b, -1 ≤ cmpK a b ∧ cmpK a b ≤ 1 := fun a b => by unfold cmpK; split <;> first | omega | (split <;> omega)
    have e3 : ∀ a b, -1 ≤ Lib.compareBytes a b ∧ Lib.compareBytes a b ≤ 1 := fun a b => by rcases bytes3 a b with ⟨h, _⟩ | ⟨h, _⟩ | ⟨h, _⟩ <;> rw [h] <;> omega
    unfold cmpV
    split
    · split
      · omega
      · split
        · exact e2 _ _
        · split
          · exact e3 _ _
          · exact e1 _ _
    · exact e1 _ _
  have b1 := hbd k n s k' n' s'
  have b2 := hbd k' n' s' q m r
  have b3 := hbd k n s q m r
  clear hbd
  rw [hsw] at KBA
  clear hsw
  generalize cmpV k n s k' n' s' = A at *
  generalize cmpV k' n' s' q m r = B at *
  generalize cmpV k n s q m r = C at *
  have e1 : (A != A) = false := by simp
  have e2 : (IntKind.i64.wrap (- -A) = A) := by rw [IntKind.wrap_i64]; omega
  have e3 : (IntKind.i64.wrap A = A) := by rw [IntKind.wrap_i64]; omega
  have KL := lives_any
  have HB : Hid (Below (w.heap.size + 3) (((w.alloc (.cells #[.int .i64 k, .int .i64 n, .string s] 37)).alloc (.cells #[.int .i64 k', .int .i64 n', .string s'] 37)).alloc (.cells #[.int .i64 q, .int .i64 m, .string r] 37)) (((w.alloc (.cells #[.int .i64 k, .int .i64 n, .string s] 37)).alloc (.cells #[.int .i64 k', .int .i64 n', .string s'] 37)).alloc (.cells #[.int .i64 q, .int .i64 m, .string r] 37))) := Lib.hid (Below.refl _ _)
  have HM := Lib.hid h
  have hcs : (decide (A ≤ 0) = false) ∨ (decide (A ≤ 0) = true ∧ decide (B ≤ 0) = false) ∨ (decide (A ≤ 0) = true ∧ decide (B ≤ 0) = true ∧ decide (0 < C) = false) := by
    by_cases hA : A ≤ 0
    · by_cases hB : B ≤ 0
      · have := htr hA hB
        exact .inr (.inr ⟨decide_eq_true hA, decide_eq_true hB, decide_eq_false (by omega)⟩)
      · exact .inr (.inl ⟨decide_eq_true hA, decide_eq_false hB⟩)
    · exact .inl (decide_eq_false hA)
  clear b1 b2 b3 htr h h0 h1 h2 h3 h4 h5
  go_enter Tryz.func5, Tryz.ntmps5
  go_wp2_with fail
  refine wp_region_mix (fun W => W.cell? ⟨w.heap.size, 0, none⟩ = some (.int .i64 k) ∧ W.cell? ⟨w.heap.size, 1, none⟩ = some (.int .i64 n) ∧ W.cell? ⟨w.heap.size, 2, none⟩ = some (.string s) ∧ W.cell? ⟨w.heap.size + 1, 0, none⟩ = some (.int .i64 k') ∧ W.cell? ⟨w.heap.size + 1, 1, none⟩ = some (.int .i64 n') ∧ W.cell? ⟨w.heap.size + 1, 2, none⟩ = some (.string s') ∧ W.cell? ⟨w.heap.size + 1 + 1, 0, none⟩ = some (.int .i64 q) ∧ W.cell? ⟨w.heap.size + 1 + 1, 1, none⟩ = some (.int .i64 m) ∧ W.cell? ⟨w.heap.size + 1 + 1, 2, none⟩ = some (.string r)) 17 [(true, 0), (true, 1), (true, 3), (true, 4), (false, 2), (false, 5), (true, 6), (true, 7), (true, 8), (true, 9), (true, 11), (true, 12), (false, 10), (false, 13), (true, 14), (true, 15), (true, 16)] (by kernel_rfl) (by decide +kernel) rfl (by decide +kernel) (three_state HB.out.drew).1 ?_
  replace HB := Lib.hid HB.out.drew
  iterate 4
    refine wpMix_take (v := ?_) rfl rfl ?_ ?_
    rotate_left
    · (intro W hW; (try dsimp only at hW); go_simp) <;> with_reducible rfl
    simp only [Act.put, List.setIfInBounds_toArray, List.set_cons_zero, List.set_cons_succ]
  refine wpMix_run rfl ?_
  intro K hK
  go_wp2_with fail
  refine (KAB _).mono ?_
  rintro e w' ⟨rfl, hb⟩
  replace HB := Lib.hid (three_next HB.out hb)
  clear hb
  go_wp2_with fail
  refine hK.out _ _ (fun _ => (three_state HB.out).1) ?_
  clear hK K
  refine wpMix_run rfl ?_
  intro K hK
  go_wp2_with fail
  refine (KRB _).mono ?_
  rintro e w' ⟨rfl, hb⟩
  replace HB := Lib.hid (three_next HB.out hb)
  clear hb
  go_wp2_with fail
  refine hK.out _ _ (fun _ => (three_state HB.out).1) ?_
  clear hK K
  iterate 6
    refine wpMix_take (v := ?_) rfl rfl ?_ ?_
    rotate_left
    · (intro W hW; (try dsimp only at hW); go_simp) <;> with_reducible rfl
    simp only [Act.put, List.setIfInBounds_toArray, List.set_cons_zero, List.set_cons_succ]
  refine wpMix_run rfl ?_
  intro K hK
  go_wp2_with fail
  refine (KAB _).mono ?_
  rintro e w' ⟨rfl, hb⟩
  replace HB := Lib.hid (three_next HB.out hb)
  clear hb
  go_wp2_with fail
  refine hK.out _ _ (fun _ => (three_state HB.out).1) ?_
  clear hK K
  refine wpMix_run rfl ?_
  intro K hK
  go_wp2_with fail
  refine (KBA _).mono ?_
  rintro e w' ⟨rfl, hb⟩
  replace HB := Lib.hid (three_next HB.out hb)
  clear hb
  go_wp2_with fail
  refine hK.out _ _ (fun _ => (three_state HB.out).1) ?_
  clear hK K
  iterate 3
    refine wpMix_take (v := ?_) rfl rfl ?_ ?_
    rotate_left
    · (intro W hW; (try dsimp only at hW); go_simp) <;> with_reducible rfl
    simp only [Act.put, List.setIfInBounds_toArray, List.set_cons_zero, List.set_cons_succ]
  refine wpMix_nil ?_
  clear KRB KBA
  obtain ⟨f1, f2, f3, f4, f5, f6, f7, f8, f9⟩ := (three_state HB.out).1
  go_wp2_with fail
  refine (KAB _).mono ?_
  rintro e w' ⟨rfl, hb⟩
  replace HB := Lib.hid (three_next HB.out hb)
  clear hb f1 f2 f3 f4 f5 f6 f7 f8 f9
  obtain ⟨f1, f2, f3, f4, f5, f6, f7, f8, f9⟩ := (three_state HB.out).1
  rcases hcs with c1 | ⟨c1, c2⟩ | ⟨c1, c2, c3⟩
  · skip
    go_wp2_with fail
    have HBW := Lib.hid (three_state HB.out).2
    have hM := HM.out.below HBW.out
    refine (KL _ hM).mono ?_
    rintro e w6 ⟨rfl, hb⟩
    have HE := Lib.hid (HBW.out.trans (hb.mono HBW.out.size))
    clear hb hM
    go_wp2_with fail
    go_ret
    exact ⟨rfl, HE.out⟩
  · skip
    go_wp2_with fail
    refine (KBC _).mono ?_
    rintro e w' ⟨rfl, hb⟩
    replace HB := Lib.hid (three_next HB.out hb)
    clear hb f1 f2 f3 f4 f5 f6 f7 f8 f9
    obtain ⟨f1, f2, f3, f4, f5, f6, f7, f8, f9⟩ := (three_state HB.out).1
    go_wp2_with fail
    have HBW := Lib.hid (three_state HB.out).2
    have hM := HM.out.below HBW.out
    refine (KL _ hM).mono ?_
    rintro e w6 ⟨rfl, hb⟩
    have HE := Lib.hid (HBW.out.trans (hb.mono HBW.out.size))
    clear hb hM
    go_wp2_with fail
    go_ret
    exact ⟨rfl, HE.out⟩
  · skip
    go_wp2_with fail
    refine (KBC _).mono ?_
    rintro e w' ⟨rfl, hb⟩
    replace HB := Lib.hid (three_next HB.out hb)
    clear hb f1 f2 f3 f4 f5 f6 f7 f8 f9
    obtain ⟨f1, f2, f3, f4, f5, f6, f7, f8, f9⟩ := (three_state HB.out).1
    go_wp2_with fail
    refine (KAC _).mono ?_
    rintro e w' ⟨rfl, hb⟩
    replace HB := Lib.hid (three_next HB.out hb)
    clear hb f1 f2 f3 f4 f5 f6 f7 f8 f9
    obtain ⟨f1, f2, f3, f4, f5, f6, f7, f8, f9⟩ := (three_state HB.out).1
    go_wp2_with fail
    have HBW := Lib.hid (three_state HB.out).2
    have hM := HM.out.below HBW.out
    refine (KL _ hM).mono ?_
    rintro e w6 ⟨rfl, hb⟩
    have HE := Lib.hid (HBW.out.trans (hb.mono HBW.out.size))
    clear hb hM
    go_wp2_with fail
    go_ret
    exact ⟨rfl, HE.out⟩
end Go.Proofs.YtfmhdnefcapjgaaGreat
