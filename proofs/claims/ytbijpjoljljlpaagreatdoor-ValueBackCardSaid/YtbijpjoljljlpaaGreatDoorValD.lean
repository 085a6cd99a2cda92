/- Values of rows: the text of a Str, a Null is good, the document's examples. Conditions: as stated. -/
import Derived.Test.YtbijpjoljljlpaaGreatDoorValC
import Derived.Test.YtbijpjoljljlpaaGreatDoorSched2
import Derived.Laws.StructEq
import Derived.Lib.ReplaceLaws
set_option maxRecDepth 100000
namespace Go.Proofs.YtbijpjoljljlpaaGreatDoor
open Go.RowKit Go.Lib

/-- the bound of the library's search is some number -/
def MaxOk (w : World) : Prop := ∃ m, w.cell? ⟨0, 0, none⟩ = some (.int .i64 m)
theorem MaxOk.below {w w' : World} (h : MaxOk w) (hb : Below w.heap.size w w') : MaxOk w' := by
  obtain ⟨m, hm⟩ := h
  exact ⟨m, by rw [hb.cell (World.block_lt_of_cell? _ _ hm)]; exact hm⟩
def quoteB (s : ByteArray) : ByteArray := ⟨#[39]⟩ ++ ⟨(Lib.replaceAll s.data.toList [39] [39, 39]).toArray⟩ ++ ⟨#[39]⟩
theorem replaceK_len (old new : List UInt8) : ∀ (k : Nat) (s : List UInt8), (Lib.replaceK old new k s).length ≤ s.length + k * new.length
  | 0, s => by simp [Lib.replaceK]
  | k + 1, s => by
    unfold Lib.replaceK
    split
    · have : 0 ≤ (k + 1) * new.length := Nat.zero_le _
      omega
    · have ih := replaceK_len old new k (s.drop ((Lib.index s old).toNat + old.length))
      simp only [List.length_append, List.length_take, List.length_drop] at ih ⊢
      have e : (k + 1) * new.length = k * new.length + new.length := Nat.succ_mul _ _
      omega
theorem replaceAll_len (s : List UInt8) (h : Lib.count s [39] ≤ s.length) : (Lib.replaceAll s [39] [39, 39]).length ≤ 3 * s.length := by
  have h1 : Lib.replaceAll s [39] [39, 39] = Lib.replaceK [39] [39, 39] (Lib.replaceNum s [39] (-1)) s := rfl
  have h2 : Lib.replaceNum s [39] (-1) = Lib.count s [39] := by unfold Lib.replaceNum; rw [if_pos (by omega)]
  rw [h1, h2]
  have := replaceK_len [39] [39, 39] (Lib.count s [39]) s
  simp only [List.length_cons, List.length_nil] at this
  omega
theorem quote_count (s : ByteArray) : Lib.countB s ⟨#[39]⟩ ≤ s.size := by
  have := Lib.countB_mul_le ⟨#[39]⟩ (by decide) s.size s (Nat.le_refl _)
  have h2 : (⟨#[39]⟩ : ByteArray).size = 1 := rfl
  rw [h2] at this; omega
theorem strText_any (s : ByteArray) (hs : s.size ≤ 1000000) (w : World) (h : MaxOk w) : Calls Tryz.prog 140 #[.string s] w fun e w' => e = .returned (.string (quoteB s)) ∧ Below w.heap.size w w' := by
  /- 28 -/
  obtain ⟨m, hm⟩ := h
  have hc := quote_count s
  have hl := replaceAll_len s.data.toList (by have h3 := hc; unfold Lib.countB at h3; rw [← Lib.size_eq]; exact h3)
  rw [← Lib.size_eq] at hl
  have KR := fun w hm => Tryz.strings_ReplaceAll s ⟨#[39]⟩ ⟨#[39, 39]⟩ m w (by omega) hm (by decide) (by have h2 : (⟨#[39, 39]⟩ : ByteArray).size = 2 := rfl; rw [h2]; omega)
  unfold quoteB
  have eq : Lib.replaceAll s.data.toList (⟨#[39]⟩ : ByteArray).data.toList (⟨#[39, 39]⟩ : ByteArray).data.toList = Lib.replaceAll s.data.toList [39] [39, 39] := rfl
  rw [eq] at KR
  generalize Lib.replaceAll s.data.toList [39] [39, 39] = Q at *
  have h1 : ¬ 9223372036854775807 < 1 + Q.length := by omega
  have h2 : ¬ 9223372036854775807 < 1 + Q.length + 1 := by omega
  clear hc hs hl eq
  go_enter Tryz.func140, Tryz.ntmps140
  go_wp2_with fail
  refine (KR _ hm).mono ?_
  rintro e w1 ⟨rfl, hb⟩
  go_wp2_with fail
  go_ret
  exact ⟨rfl, hb⟩
theorem m_str_text (v : Value) (w : World) : (method 274 53 v "talus/value.text").run Tryz.prog w = .ok (140, v) w := by kernel_rfl
theorem m_null_good (v : Value) (w : World) : (method 274 51 v "talus/value.good").run Tryz.prog w = .ok (130, v) w := by kernel_rfl
theorem text_str (n : Int) (s : ByteArray) (hs : s.size ≤ 1000000) (w : World) (h : MaxOk w) : Calls Tryz.prog 7 #[vv 3 n s] w fun e w' => e = .returned (.string (quoteB s)) ∧ Below w.heap.size w w' := by
  have KC := content_str n s
  have KT := strText_any s hs
  have mt := m_str_text
  go_enter Tryz.func7, Tryz.ntmps7
  go_wp2_with fail
  refine (KC _).mono ?_
  rintro e w1 ⟨rfl, hb⟩
  have hB := ((Below.refl w.heap.size w).alloc (Nat.le_refl _) _).trans (hb.mono (by simp))
  have hM := h.below hB
  have HB := Lib.hid hB
  clear hb KC hB
  go_wp2_with fail
  refine (KT _ hM).mono ?_
  rintro e w2 ⟨rfl, hb⟩
  have HB2 := Lib.hid (HB.out.trans (hb.mono HB.out.size))
  clear hb
  go_wp2_with fail
  go_ret
  exact ⟨rfl, HB2.out⟩
theorem m_int_good (v : Value) (w : World) : (method 274 55 v "talus/value.good").run Tryz.prog w = .ok (142, v) w := by kernel_rfl
theorem m_float_good (v : Value) (w : World) : (method 274 52 v "talus/value.good").run Tryz.prog w = .ok (133, v) w := by kernel_rfl
theorem m_str_good (v : Value) (w : World) : (method 274 53 v "talus/value.good").run Tryz.prog w = .ok (139, v) w := by kernel_rfl
theorem m_bool_good (v : Value) (w : World) : (method 274 56 v "talus/value.good").run Tryz.prog w = .ok (151, v) w := by kernel_rfl
theorem m_other_good (v : Value) (w : World) : (method 274 57 v "talus/value.good").run Tryz.prog w = .ok (154, v) w := by kernel_rfl


theorem goodNull_any (w : World) : Calls Tryz.prog 130 #[.agg #[]] w fun e w' => e = .returned (.bool true) ∧ Below w.heap.size w w' := by
  go_enter Tryz.func130, Tryz.ntmps130
  go_wp2_with fail
  go_ret
  exact ⟨rfl, (Below.refl _ _).alloc (Nat.le_refl _) _⟩
theorem goodInt_any (n : Int) (w : World) : Calls Tryz.prog 142 #[.int .i64 n] w fun e w' => e = .returned (.bool true) ∧ Below w.heap.size w w' := by
  go_enter Tryz.func142, Tryz.ntmps142
  go_wp2_with fail
  go_ret
  exact ⟨rfl, Below.refl _ _⟩
theorem goodOther_any (n : Int) (w : World) : Calls Tryz.prog 154 #[.int .i64 n] w fun e w' => e = .returned (.bool false) ∧ Below w.heap.size w w' := by
  go_enter Tryz.func154, Tryz.ntmps154
  go_wp2_with fail
  go_ret
  exact ⟨rfl, Below.refl _ _⟩
theorem goodFloat_any (n : Int) (h0 : -9223372036854775808 ≤ n) (h1 : n < 9223372036854775808) (w : World) : Calls Tryz.prog 133 #[.int .i64 n] w fun e w' => e = .returned (.bool (goodW (wi n))) ∧ Below w.heap.size w w' := by
  have KG := ogood_any (wi n) (wi_lt n)
  rw [iw_wi n h0 h1] at KG
  clear h0 h1
  go_enter Tryz.func133, Tryz.ntmps133
  go_wp2_with fail
  refine (KG _).mono ?_
  rintro e w1 ⟨rfl, rfl⟩
  go_wp2_with fail
  go_ret
  exact ⟨rfl, Below.refl _ _⟩
theorem goodStr_any (s : ByteArray) (w : World) : Calls Tryz.prog 139 #[.string s] w fun e w' => e = .returned (.bool (decide (s.size ≤ 64))) ∧ Below w.heap.size w w' := by
  go_enter Tryz.func139, Tryz.ntmps139
  go_wp2_with fail
  go_ret
  exact ⟨by simp; omega, Below.refl _ _⟩
theorem goodBool_any (n : Int) (w : World) : Calls Tryz.prog 151 #[.int .i64 n] w fun e w' => e = .returned (.bool (n == 0 || n == 1)) ∧ Below w.heap.size w w' := by
  cases e0 : (n == 0) <;> cases e1 : (n == 1)
  all_goals (
    go_enter Tryz.func151, Tryz.ntmps151
    go_wp2_with fail
    go_ret
    exact ⟨rfl, Below.refl _ _⟩)
def sameV (k n : Int) (s : ByteArray) (k' n' : Int) (s' : ByteArray) : Bool := k == k' && (n == n' && s.toList == s'.toList)
theorem eql_val (w : World) (k n : Int) (s : ByteArray) (k' n' : Int) (s' : ByteArray) : (binOp .eql 25 (vv k n s) (vv k' n' s')).run Tryz.prog w = .ok (.bool (sameV k n s k' n' s')) w := by
  have u3 := Tryz.underlying3
  have u9 := Tryz.underlying9
  have hS : Tryz.prog.underlying 25 = some (.struct (Tryz.prog.fieldsOf 25)) := by kernel_rfl
  have hp : Tryz.prog.stoodInHeld 25 = false := by kernel_rfl
  unfold sameV
  rw [run_eql_struct, show (10000 : Nat) = 9999 + 1 from rfl, run_equalIn_agg w 9999 25 _ _ hS hp]
  simp only [Program.fieldsOf, Tryz.underlying25]
  cases e0 : (k == k') <;> cases e1 : (n == n') <;> cases e2 : (s.toList == s'.toList)
  all_goals (
    go_simp
    try simp_all)
theorem guard_val (w : World) (o : BinOp) (x y : Operand) (k n : Int) (s : ByteArray) (k' n' : Int) (s' : ByteArray) : (eqGuard o 25 x y (vv k n s) (vv k' n' s')).run Tryz.prog w = .ok () w :=
  run_eqGuard_agg w o _ x y _ _ (by kernel_rfl)
theorem good_state {w w' : World} {k n : Int} {s : ByteArray} (hb : Below (w.heap.size + 1) (w.alloc (.cells #[.int .i64 k, .int .i64 n, .string s] 25)) w') :
    (w'.cell? ⟨w.heap.size, 0, none⟩ = some (.int .i64 k) ∧ w'.cell? ⟨w.heap.size, 1, none⟩ = some (.int .i64 n) ∧ w'.cell? ⟨w.heap.size, 2, none⟩ = some (.string s)) ∧ Below w.heap.size w w' := by
  have hz : (w.alloc (.cells #[.int .i64 k, .int .i64 n, .string s] 25)).heap.size = w.heap.size + 1 := by simp
  exact ⟨(C3.new w (.int .i64 k) (.int .i64 n) (.string s) 25).keep hb (by omega), ((Below.refl w.heap.size w).alloc (Nat.le_refl _) _).trans (hb.mono (by omega))⟩
theorem good_next {w w1 w2 : World} {o : Obj} (hb : Below (w.heap.size + 1) (w.alloc o) w1) (hk : Below w1.heap.size w1 w2) : Below (w.heap.size + 1) (w.alloc o) w2 := by
  have hz : (w.alloc o).heap.size = w.heap.size + 1 := by simp
  have := hb.size
  exact hb.trans (hk.mono (by omega))
theorem vgood_null (n : Int) (s : ByteArray) (b : Bool) (KM : ∀ w, Calls Tryz.prog 130 #[.agg #[]] w fun e w' => e = .returned (.bool b) ∧ Below w.heap.size w w') (w : World) :
    Calls Tryz.prog 5 #[vv 0 n s] w fun e w' => e = .returned (.bool (b && sameV 0 0 ⟨#[]⟩ 0 n s)) ∧ Below w.heap.size w w' := by
  have KC := content_null n s
  have KV := of_null
  have mg := m_null_good
  have KE := eql_val
  have KU := guard_val
  cases b
  · go_enter Tryz.func5, Tryz.ntmps5
    go_wp2_with fail
    refine (KC _).mono ?_
    rintro e w1 ⟨rfl, hb⟩
    have hb : Below (w.heap.size + 1) (w.alloc (.cells #[.int .i64 0, .int .i64 n, .string s] 25)) w1 := hb.mono (by simp)
    have HB := Lib.hid hb
    have S0 := (good_state hb.drew).1
    clear hb KC
    go_wp2_with fail
    refine wp_region_mix (fun W => W.cell? ⟨w.heap.size, 0, none⟩ = some (.int .i64 0) ∧ W.cell? ⟨w.heap.size, 1, none⟩ = some (.int .i64 n) ∧ W.cell? ⟨w.heap.size, 2, none⟩ = some (.string s)) 9 [(true, 0), (false, 1), (true, 2), (true, 3), (true, 5), (true, 4), (true, 6), (true, 7), (true, 8)] (by kernel_rfl) (by decide +kernel) rfl (by decide +kernel) S0 ?_
    iterate 1
      refine wpMix_take (v := ?_) rfl rfl ?_ ?_
      rotate_left
      · (intro W hW; (try dsimp only at hW); go_simp) <;> with_reducible rfl
      simp only [Act.put, List.setIfInBounds_toArray, List.set_cons_zero, List.set_cons_succ]
    refine wpMix_run rfl ?_
    intro K hK
    go_wp2_with fail
    refine (KM _).mono ?_
    rintro e w2 ⟨rfl, hb2⟩
    have hb3 := good_next HB.out.drew hb2
    have HB3 := Lib.hid hb3
    have S1 := (good_state hb3).1
    clear hb2 hb3 HB
    go_wp2_with fail
    refine hK.out _ _ (fun _ => S1) ?_
    clear hK K
    iterate 1
      refine wpMix_take (v := ?_) rfl rfl ?_ ?_
      rotate_left
      · (intro W hW; (try dsimp only at hW); go_simp) <;> with_reducible rfl
      simp only [Act.put, List.setIfInBounds_toArray, List.set_cons_zero, List.set_cons_succ]
    iterate 4
      refine wpMix_skip rfl rfl ?_
      simp only [Act.put, List.setIfInBounds_toArray, List.set_cons_zero, List.set_cons_succ]
    iterate 2
      refine wpMix_take (v := ?_) rfl rfl ?_ ?_
      rotate_left
      · (intro W hW; (try dsimp only at hW); go_simp) <;> with_reducible rfl
      simp only [Act.put, List.setIfInBounds_toArray, List.set_cons_zero, List.set_cons_succ]
    refine wpMix_nil ?_
    go_wp2_with fail
    go_ret
    exact ⟨rfl, (good_state HB3.out).2⟩
  · go_enter Tryz.func5, Tryz.ntmps5
    go_wp2_with fail
    refine (KC _).mono ?_
    rintro e w1 ⟨rfl, hb⟩
    have hb : Below (w.heap.size + 1) (w.alloc (.cells #[.int .i64 0, .int .i64 n, .string s] 25)) w1 := hb.mono (by simp)
    have HB := Lib.hid hb
    have S0 := (good_state hb.drew).1
    clear hb KC
    go_wp2_with fail
    refine wp_region_mix (fun W => W.cell? ⟨w.heap.size, 0, none⟩ = some (.int .i64 0) ∧ W.cell? ⟨w.heap.size, 1, none⟩ = some (.int .i64 n) ∧ W.cell? ⟨w.heap.size, 2, none⟩ = some (.string s)) 9 [(true, 0), (false, 1), (true, 2), (true, 3), (true, 5), (false, 4), (true, 6), (true, 7), (true, 8)] (by kernel_rfl) (by decide +kernel) rfl (by decide +kernel) S0 ?_
    iterate 1
      refine wpMix_take (v := ?_) rfl rfl ?_ ?_
      rotate_left
      · (intro W hW; (try dsimp only at hW); go_simp) <;> with_reducible rfl
      simp only [Act.put, List.setIfInBounds_toArray, List.set_cons_zero, List.set_cons_succ]
    refine wpMix_run rfl ?_
    intro K hK
    go_wp2_with fail
    refine (KM _).mono ?_
    rintro e w2 ⟨rfl, hb2⟩
    have hb3 := good_next HB.out.drew hb2
    have HB3 := Lib.hid hb3
    have S1 := (good_state hb3).1
    clear hb2 hb3 HB
    go_wp2_with fail
    refine hK.out _ _ (fun _ => S1) ?_
    clear hK K
    iterate 3
      refine wpMix_take (v := ?_) rfl rfl ?_ ?_
      rotate_left
      · (intro W hW; (try dsimp only at hW); go_simp) <;> with_reducible rfl
      simp only [Act.put, List.setIfInBounds_toArray, List.set_cons_zero, List.set_cons_succ]
    refine wpMix_run rfl ?_
    intro K hK
    go_wp2_with fail
    refine (KV _).mono ?_
    rintro e w3 ⟨rfl, hb4⟩
    have hb5 := good_next HB3.out hb4
    have HB5 := Lib.hid hb5
    have S2 := (good_state hb5).1
    clear hb4 hb5 HB3
    go_wp2_with fail
    refine hK.out _ _ (fun _ => S2) ?_
    clear hK K
    iterate 3
      refine wpMix_take (v := ?_) rfl rfl ?_ ?_
      rotate_left
      · (intro W hW; (try dsimp only at hW); go_simp) <;> with_reducible rfl
      simp only [Act.put, List.setIfInBounds_toArray, List.set_cons_zero, List.set_cons_succ]
    refine wpMix_nil ?_
    go_wp2_with fail
    go_ret
    exact ⟨by simp, (good_state HB5.out).2⟩
theorem vgood_int (n : Int) (s : ByteArray) (b : Bool) (KM : ∀ w, Calls Tryz.prog 142 #[.int .i64 n] w fun e w' => e = .returned (.bool b) ∧ Below w.heap.size w w') (w : World) :
    Calls Tryz.prog 5 #[vv 1 n s] w fun e w' => e = .returned (.bool (b && sameV 1 n ⟨#[]⟩ 1 n s)) ∧ Below w.heap.size w w' := by
  have KC := content_int n s
  have KV := of_int n
  have mg := m_int_good
  have KE := eql_val
  have KU := guard_val
  cases b
  · go_enter Tryz.func5, Tryz.ntmps5
    go_wp2_with fail
    refine (KC _).mono ?_
    rintro e w1 ⟨rfl, hb⟩
    have hb : Below (w.heap.size + 1) (w.alloc (.cells #[.int .i64 1, .int .i64 n, .string s] 25)) w1 := hb.mono (by simp)
    have HB := Lib.hid hb
    have S0 := (good_state hb.drew).1
    clear hb KC
    go_wp2_with fail
    refine wp_region_mix (fun W => W.cell? ⟨w.heap.size, 0, none⟩ = some (.int .i64 1) ∧ W.cell? ⟨w.heap.size, 1, none⟩ = some (.int .i64 n) ∧ W.cell? ⟨w.heap.size, 2, none⟩ = some (.string s)) 9 [(true, 0), (false, 1), (true, 2), (true, 3), (true, 5), (true, 4), (true, 6), (true, 7), (true, 8)] (by kernel_rfl) (by decide +kernel) rfl (by decide +kernel) S0 ?_
    iterate 1
      refine wpMix_take (v := ?_) rfl rfl ?_ ?_
      rotate_left
      · (intro W hW; (try dsimp only at hW); go_simp) <;> with_reducible rfl
      simp only [Act.put, List.setIfInBounds_toArray, List.set_cons_zero, List.set_cons_succ]
    refine wpMix_run rfl ?_
    intro K hK
    go_wp2_with fail
    refine (KM _).mono ?_
    rintro e w2 ⟨rfl, hb2⟩
    have hb3 := good_next HB.out.drew hb2
    have HB3 := Lib.hid hb3
    have S1 := (good_state hb3).1
    clear hb2 hb3 HB
    go_wp2_with fail
    refine hK.out _ _ (fun _ => S1) ?_
    clear hK K
    iterate 1
      refine wpMix_take (v := ?_) rfl rfl ?_ ?_
      rotate_left
      · (intro W hW; (try dsimp only at hW); go_simp) <;> with_reducible rfl
      simp only [Act.put, List.setIfInBounds_toArray, List.set_cons_zero, List.set_cons_succ]
    iterate 4
      refine wpMix_skip rfl rfl ?_
      simp only [Act.put, List.setIfInBounds_toArray, List.set_cons_zero, List.set_cons_succ]
    iterate 2
      refine wpMix_take (v := ?_) rfl rfl ?_ ?_
      rotate_left
      · (intro W hW; (try dsimp only at hW); go_simp) <;> with_reducible rfl
      simp only [Act.put, List.setIfInBounds_toArray, List.set_cons_zero, List.set_cons_succ]
    refine wpMix_nil ?_
    go_wp2_with fail
    go_ret
    exact ⟨rfl, (good_state HB3.out).2⟩
  · go_enter Tryz.func5, Tryz.ntmps5
    go_wp2_with fail
    refine (KC _).mono ?_
    rintro e w1 ⟨rfl, hb⟩
    have hb : Below (w.heap.size + 1) (w.alloc (.cells #[.int .i64 1, .int .i64 n, .string s] 25)) w1 := hb.mono (by simp)
    have HB := Lib.hid hb
    have S0 := (good_state hb.drew).1
    clear hb KC
    go_wp2_with fail
    refine wp_region_mix (fun W => W.cell? ⟨w.heap.size, 0, none⟩ = some (.int .i64 1) ∧ W.cell? ⟨w.heap.size, 1, none⟩ = some (.int .i64 n) ∧ W.cell? ⟨w.heap.size, 2, none⟩ = some (.string s)) 9 [(true, 0), (false, 1), (true, 2), (true, 3), (true, 5), (false, 4), (true, 6), (true, 7), (true, 8)] (by kernel_rfl) (by decide +kernel) rfl (by decide +kernel) S0 ?_
    iterate 1
      refine wpMix_take (v := ?_) rfl rfl ?_ ?_
      rotate_left
      · (intro W hW; (try dsimp only at hW); go_simp) <;> with_reducible rfl
      simp only [Act.put, List.setIfInBounds_toArray, List.set_cons_zero, List.set_cons_succ]
    refine wpMix_run rfl ?_
    intro K hK
    go_wp2_with fail
    refine (KM _).mono ?_
    rintro e w2 ⟨rfl, hb2⟩
    have hb3 := good_next HB.out.drew hb2
    have HB3 := Lib.hid hb3
    have S1 := (good_state hb3).1
    clear hb2 hb3 HB
    go_wp2_with fail
    refine hK.out _ _ (fun _ => S1) ?_
    clear hK K
    iterate 3
      refine wpMix_take (v := ?_) rfl rfl ?_ ?_
      rotate_left
      · (intro W hW; (try dsimp only at hW); go_simp) <;> with_reducible rfl
      simp only [Act.put, List.setIfInBounds_toArray, List.set_cons_zero, List.set_cons_succ]
    refine wpMix_run rfl ?_
    intro K hK
    go_wp2_with fail
    refine (KV _).mono ?_
    rintro e w3 ⟨rfl, hb4⟩
    have hb5 := good_next HB3.out hb4
    have HB5 := Lib.hid hb5
    have S2 := (good_state hb5).1
    clear hb4 hb5 HB3
    go_wp2_with fail
    refine hK.out _ _ (fun _ => S2) ?_
    clear hK K
    iterate 3
      refine wpMix_take (v := ?_) rfl rfl ?_ ?_
      rotate_left
      · (intro W hW; (try dsimp only at hW); go_simp) <;> with_reducible rfl
      simp only [Act.put, List.setIfInBounds_toArray, List.set_cons_zero, List.set_cons_succ]
    refine wpMix_nil ?_
    go_wp2_with fail
    go_ret
    exact ⟨by simp, (good_state HB5.out).2⟩
theorem vgood_float (n : Int) (s : ByteArray) (b : Bool) (KM : ∀ w, Calls Tryz.prog 133 #[.int .i64 n] w fun e w' => e = .returned (.bool b) ∧ Below w.heap.size w w') (w : World) :
    Calls Tryz.prog 5 #[vv 2 n s] w fun e w' => e = .returned (.bool (b && sameV 2 n ⟨#[]⟩ 2 n s)) ∧ Below w.heap.size w w' := by
  have KC := content_float n s
  have KV := of_float n
  have mg := m_float_good
  have KE := eql_val
  have KU := guard_val
  cases b
  · go_enter Tryz.func5, Tryz.ntmps5
    go_wp2_with fail
    refine (KC _).mono ?_
    rintro e w1 ⟨rfl, hb⟩
    have hb : Below (w.heap.size + 1) (w.alloc (.cells #[.int .i64 2, .int .i64 n, .string s] 25)) w1 := hb.mono (by simp)
    have HB := Lib.hid hb
    have S0 := (good_state hb.drew).1
    clear hb KC
    go_wp2_with fail
    refine wp_region_mix (fun W => W.cell? ⟨w.heap.size, 0, none⟩ = some (.int .i64 2) ∧ W.cell? ⟨w.heap.size, 1, none⟩ = some (.int .i64 n) ∧ W.cell? ⟨w.heap.size, 2, none⟩ = some (.string s)) 9 [(true, 0), (false, 1), (true, 2), (true, 3), (true, 5), (true, 4), (true, 6), (true, 7), (true, 8)] (by kernel_rfl) (by decide +kernel) rfl (by decide +kernel) S0 ?_
    iterate 1
      refine wpMix_take (v := ?_) rfl rfl ?_ ?_
      rotate_left
      · (intro W hW; (try dsimp only at hW); go_simp) <;> with_reducible rfl
      simp only [Act.put, List.setIfInBounds_toArray, List.set_cons_zero, List.set_cons_succ]
    refine wpMix_run rfl ?_
    intro K hK
    go_wp2_with fail
    refine (KM _).mono ?_
    rintro e w2 ⟨rfl, hb2⟩
    have hb3 := good_next HB.out.drew hb2
    have HB3 := Lib.hid hb3
    have S1 := (good_state hb3).1
    clear hb2 hb3 HB
    go_wp2_with fail
    refine hK.out _ _ (fun _ => S1) ?_
    clear hK K
    iterate 1
      refine wpMix_take (v := ?_) rfl rfl ?_ ?_
      rotate_left
      · (intro W hW; (try dsimp only at hW); go_simp) <;> with_reducible rfl
      simp only [Act.put, List.setIfInBounds_toArray, List.set_cons_zero, List.set_cons_succ]
    iterate 4
      refine wpMix_skip rfl rfl ?_
      simp only [Act.put, List.setIfInBounds_toArray, List.set_cons_zero, List.set_cons_succ]
    iterate 2
      refine wpMix_take (v := ?_) rfl rfl ?_ ?_
      rotate_left
      · (intro W hW; (try dsimp only at hW); go_simp) <;> with_reducible rfl
      simp only [Act.put, List.setIfInBounds_toArray, List.set_cons_zero, List.set_cons_succ]
    refine wpMix_nil ?_
    go_wp2_with fail
    go_ret
    exact ⟨rfl, (good_state HB3.out).2⟩
  · go_enter Tryz.func5, Tryz.ntmps5
    go_wp2_with fail
    refine (KC _).mono ?_
    rintro e w1 ⟨rfl, hb⟩
    have hb : Below (w.heap.size + 1) (w.alloc (.cells #[.int .i64 2, .int .i64 n, .string s] 25)) w1 := hb.mono (by simp)
    have HB := Lib.hid hb
    have S0 := (good_state hb.drew).1
    clear hb KC
    go_wp2_with fail
    refine wp_region_mix (fun W => W.cell? ⟨w.heap.size, 0, none⟩ = some (.int .i64 2) ∧ W.cell? ⟨w.heap.size, 1, none⟩ = some (.int .i64 n) ∧ W.cell? ⟨w.heap.size, 2, none⟩ = some (.string s)) 9 [(true, 0), (false, 1), (true, 2), (true, 3), (true, 5), (false, 4), (true, 6), (true, 7), (true, 8)] (by kernel_rfl) (by decide +kernel) rfl (by decide +kernel) S0 ?_
    iterate 1
      refine wpMix_take (v := ?_) rfl rfl ?_ ?_
      rotate_left
      · (intro W hW; (try dsimp only at hW); go_simp) <;> with_reducible rfl
      simp only [Act.put, List.setIfInBounds_toArray, List.set_cons_zero, List.set_cons_succ]
    refine wpMix_run rfl ?_
    intro K hK
    go_wp2_with fail
    refine (KM _).mono ?_
    rintro e w2 ⟨rfl, hb2⟩
    have hb3 := good_next HB.out.drew hb2
    have HB3 := Lib.hid hb3
    have S1 := (good_state hb3).1
    clear hb2 hb3 HB
    go_wp2_with fail
    refine hK.out _ _ (fun _ => S1) ?_
    clear hK K
    iterate 3
      refine wpMix_take (v := ?_) rfl rfl ?_ ?_
      rotate_left
      · (intro W hW; (try dsimp only at hW); go_simp) <;> with_reducible rfl
      simp only [Act.put, List.setIfInBounds_toArray, List.set_cons_zero, List.set_cons_succ]
    refine wpMix_run rfl ?_
    intro K hK
    go_wp2_with fail
    refine (KV _).mono ?_
    rintro e w3 ⟨rfl, hb4⟩
    have hb5 := good_next HB3.out hb4
    have HB5 := Lib.hid hb5
    have S2 := (good_state hb5).1
    clear hb4 hb5 HB3
    go_wp2_with fail
    refine hK.out _ _ (fun _ => S2) ?_
    clear hK K
    iterate 3
      refine wpMix_take (v := ?_) rfl rfl ?_ ?_
      rotate_left
      · (intro W hW; (try dsimp only at hW); go_simp) <;> with_reducible rfl
      simp only [Act.put, List.setIfInBounds_toArray, List.set_cons_zero, List.set_cons_succ]
    refine wpMix_nil ?_
    go_wp2_with fail
    go_ret
    exact ⟨by simp, (good_state HB5.out).2⟩
theorem vgood_str (n : Int) (s : ByteArray) (b : Bool) (KM : ∀ w, Calls Tryz.prog 139 #[.string s] w fun e w' => e = .returned (.bool b) ∧ Below w.heap.size w w') (w : World) :
    Calls Tryz.prog 5 #[vv 3 n s] w fun e w' => e = .returned (.bool (b && sameV 3 0 s 3 n s)) ∧ Below w.heap.size w w' := by
  have KC := content_str n s
  have KV := of_str s
  have mg := m_str_good
  have KE := eql_val
  have KU := guard_val
  cases b
  · go_enter Tryz.func5, Tryz.ntmps5
    go_wp2_with fail
    refine (KC _).mono ?_
    rintro e w1 ⟨rfl, hb⟩
    have hb : Below (w.heap.size + 1) (w.alloc (.cells #[.int .i64 3, .int .i64 n, .string s] 25)) w1 := hb.mono (by simp)
    have HB := Lib.hid hb
    have S0 := (good_state hb.drew).1
    clear hb KC
    go_wp2_with fail
    refine wp_region_mix (fun W => W.cell? ⟨w.heap.size, 0, none⟩ = some (.int .i64 3) ∧ W.cell? ⟨w.heap.size, 1, none⟩ = some (.int .i64 n) ∧ W.cell? ⟨w.heap.size, 2, none⟩ = some (.string s)) 9 [(true, 0), (false, 1), (true, 2), (true, 3), (true, 5), (true, 4), (true, 6), (true, 7), (true, 8)] (by kernel_rfl) (by decide +kernel) rfl (by decide +kernel) S0 ?_
    iterate 1
      refine wpMix_take (v := ?_) rfl rfl ?_ ?_
      rotate_left
      · (intro W hW; (try dsimp only at hW); go_simp) <;> with_reducible rfl
      simp only [Act.put, List.setIfInBounds_toArray, List.set_cons_zero, List.set_cons_succ]
    refine wpMix_run rfl ?_
    intro K hK
    go_wp2_with fail
    refine (KM _).mono ?_
    rintro e w2 ⟨rfl, hb2⟩
    have hb3 := good_next HB.out.drew hb2
    have HB3 := Lib.hid hb3
    have S1 := (good_state hb3).1
    clear hb2 hb3 HB
    go_wp2_with fail
    refine hK.out _ _ (fun _ => S1) ?_
    clear hK K
    iterate 1
      refine wpMix_take (v := ?_) rfl rfl ?_ ?_
      rotate_left
      · (intro W hW; (try dsimp only at hW); go_simp) <;> with_reducible rfl
      simp only [Act.put, List.setIfInBounds_toArray, List.set_cons_zero, List.set_cons_succ]
    iterate 4
      refine wpMix_skip rfl rfl ?_
      simp only [Act.put, List.setIfInBounds_toArray, List.set_cons_zero, List.set_cons_succ]
    iterate 2
      refine wpMix_take (v := ?_) rfl rfl ?_ ?_
      rotate_left
      · (intro W hW; (try dsimp only at hW); go_simp) <;> with_reducible rfl
      simp only [Act.put, List.setIfInBounds_toArray, List.set_cons_zero, List.set_cons_succ]
    refine wpMix_nil ?_
    go_wp2_with fail
    go_ret
    exact ⟨rfl, (good_state HB3.out).2⟩
  · go_enter Tryz.func5, Tryz.ntmps5
    go_wp2_with fail
    refine (KC _).mono ?_
    rintro e w1 ⟨rfl, hb⟩
    have hb : Below (w.heap.size + 1) (w.alloc (.cells #[.int .i64 3, .int .i64 n, .string s] 25)) w1 := hb.mono (by simp)
    have HB := Lib.hid hb
    have S0 := (good_state hb.drew).1
    clear hb KC
    go_wp2_with fail
    refine wp_region_mix (fun W => W.cell? ⟨w.heap.size, 0, none⟩ = some (.int .i64 3) ∧ W.cell? ⟨w.heap.size, 1, none⟩ = some (.int .i64 n) ∧ W.cell? ⟨w.heap.size, 2, none⟩ = some (.string s)) 9 [(true, 0), (false, 1), (true, 2), (true, 3), (true, 5), (false, 4), (true, 6), (true, 7), (true, 8)] (by kernel_rfl) (by decide +kernel) rfl (by decide +kernel) S0 ?_
    iterate 1
      refine wpMix_take (v := ?_) rfl rfl ?_ ?_
      rotate_left
      · (intro W hW; (try dsimp only at hW); go_simp) <;> with_reducible rfl
      simp only [Act.put, List.setIfInBounds_toArray, List.set_cons_zero, List.set_cons_succ]
    refine wpMix_run rfl ?_
    intro K hK
    go_wp2_with fail
    refine (KM _).mono ?_
    rintro e w2 ⟨rfl, hb2⟩
    have hb3 := good_next HB.out.drew hb2
    have HB3 := Lib.hid hb3
    have S1 := (good_state hb3).1
    clear hb2 hb3 HB
    go_wp2_with fail
    refine hK.out _ _ (fun _ => S1) ?_
    clear hK K
    iterate 3
      refine wpMix_take (v := ?_) rfl rfl ?_ ?_
      rotate_left
      · (intro W hW; (try dsimp only at hW); go_simp) <;> with_reducible rfl
      simp only [Act.put, List.setIfInBounds_toArray, List.set_cons_zero, List.set_cons_succ]
    refine wpMix_run rfl ?_
    intro K hK
    go_wp2_with fail
    refine (KV _).mono ?_
    rintro e w3 ⟨rfl, hb4⟩
    have hb5 := good_next HB3.out hb4
    have HB5 := Lib.hid hb5
    have S2 := (good_state hb5).1
    clear hb4 hb5 HB3
    go_wp2_with fail
    refine hK.out _ _ (fun _ => S2) ?_
    clear hK K
    iterate 3
      refine wpMix_take (v := ?_) rfl rfl ?_ ?_
      rotate_left
      · (intro W hW; (try dsimp only at hW); go_simp) <;> with_reducible rfl
      simp only [Act.put, List.setIfInBounds_toArray, List.set_cons_zero, List.set_cons_succ]
    refine wpMix_nil ?_
    go_wp2_with fail
    go_ret
    exact ⟨by simp, (good_state HB5.out).2⟩
theorem vgood_bool (n : Int) (s : ByteArray) (b : Bool) (KM : ∀ w, Calls Tryz.prog 151 #[.int .i64 n] w fun e w' => e = .returned (.bool b) ∧ Below w.heap.size w w') (w : World) :
    Calls Tryz.prog 5 #[vv 4 n s] w fun e w' => e = .returned (.bool (b && sameV 4 n ⟨#[]⟩ 4 n s)) ∧ Below w.heap.size w w' := by
  have KC := content_bool n s
  have KV := of_truth n
  have mg := m_bool_good
  have KE := eql_val
  have KU := guard_val
  cases b
  · go_enter Tryz.func5, Tryz.ntmps5
    go_wp2_with fail
    refine (KC _).mono ?_
    rintro e w1 ⟨rfl, hb⟩
    have hb : Below (w.heap.size + 1) (w.alloc (.cells #[.int .i64 4, .int .i64 n, .string s] 25)) w1 := hb.mono (by simp)
    have HB := Lib.hid hb
    have S0 := (good_state hb.drew).1
    clear hb KC
    go_wp2_with fail
    refine wp_region_mix (fun W => W.cell? ⟨w.heap.size, 0, none⟩ = some (.int .i64 4) ∧ W.cell? ⟨w.heap.size, 1, none⟩ = some (.int .i64 n) ∧ W.cell? ⟨w.heap.size, 2, none⟩ = some (.string s)) 9 [(true, 0), (false, 1), (true, 2), (true, 3), (true, 5), (true, 4), (true, 6), (true, 7), (true, 8)] (by kernel_rfl) (by decide +kernel) rfl (by decide +kernel) S0 ?_
    iterate 1
      refine wpMix_take (v := ?_) rfl rfl ?_ ?_
      rotate_left
      · (intro W hW; (try dsimp only at hW); go_simp) <;> with_reducible rfl
      simp only [Act.put, List.setIfInBounds_toArray, List.set_cons_zero, List.set_cons_succ]
    refine wpMix_run rfl ?_
    intro K hK
    go_wp2_with fail
    refine (KM _).mono ?_
    rintro e w2 ⟨rfl, hb2⟩
    have hb3 := good_next HB.out.drew hb2
    have HB3 := Lib.hid hb3
    have S1 := (good_state hb3).1
    clear hb2 hb3 HB
    go_wp2_with fail
    refine hK.out _ _ (fun _ => S1) ?_
    clear hK K
    iterate 1
      refine wpMix_take (v := ?_) rfl rfl ?_ ?_
      rotate_left
      · (intro W hW; (try dsimp only at hW); go_simp) <;> with_reducible rfl
      simp only [Act.put, List.setIfInBounds_toArray, List.set_cons_zero, List.set_cons_succ]
    iterate 4
      refine wpMix_skip rfl rfl ?_
      simp only [Act.put, List.setIfInBounds_toArray, List.set_cons_zero, List.set_cons_succ]
    iterate 2
      refine wpMix_take (v := ?_) rfl rfl ?_ ?_
      rotate_left
      · (intro W hW; (try dsimp only at hW); go_simp) <;> with_reducible rfl
      simp only [Act.put, List.setIfInBounds_toArray, List.set_cons_zero, List.set_cons_succ]
    refine wpMix_nil ?_
    go_wp2_with fail
    go_ret
    exact ⟨rfl, (good_state HB3.out).2⟩
  · go_enter Tryz.func5, Tryz.ntmps5
    go_wp2_with fail
    refine (KC _).mono ?_
    rintro e w1 ⟨rfl, hb⟩
    have hb : Below (w.heap.size + 1) (w.alloc (.cells #[.int .i64 4, .int .i64 n, .string s] 25)) w1 := hb.mono (by simp)
    have HB := Lib.hid hb
    have S0 := (good_state hb.drew).1
    clear hb KC
    go_wp2_with fail
    refine wp_region_mix (fun W => W.cell? ⟨w.heap.size, 0, none⟩ = some (.int .i64 4) ∧ W.cell? ⟨w.heap.size, 1, none⟩ = some (.int .i64 n) ∧ W.cell? ⟨w.heap.size, 2, none⟩ = some (.string s)) 9 [(true, 0), (false, 1), (true, 2), (true, 3), (true, 5), (false, 4), (true, 6), (true, 7), (true, 8)] (by kernel_rfl) (by decide +kernel) rfl (by decide +kernel) S0 ?_
    iterate 1
      refine wpMix_take (v := ?_) rfl rfl ?_ ?_
      rotate_left
      · (intro W hW; (try dsimp only at hW); go_simp) <;> with_reducible rfl
      simp only [Act.put, List.setIfInBounds_toArray, List.set_cons_zero, List.set_cons_succ]
    refine wpMix_run rfl ?_
    intro K hK
    go_wp2_with fail
    refine (KM _).mono ?_
    rintro e w2 ⟨rfl, hb2⟩
    have hb3 := good_next HB.out.drew hb2
    have HB3 := Lib.hid hb3
    have S1 := (good_state hb3).1
    clear hb2 hb3 HB
    go_wp2_with fail
    refine hK.out _ _ (fun _ => S1) ?_
    clear hK K
    iterate 3
      refine wpMix_take (v := ?_) rfl rfl ?_ ?_
      rotate_left
      · (intro W hW; (try dsimp only at hW); go_simp) <;> with_reducible rfl
      simp only [Act.put, List.setIfInBounds_toArray, List.set_cons_zero, List.set_cons_succ]
    refine wpMix_run rfl ?_
    intro K hK
    go_wp2_with fail
    refine (KV _).mono ?_
    rintro e w3 ⟨rfl, hb4⟩
    have hb5 := good_next HB3.out hb4
    have HB5 := Lib.hid hb5
    have S2 := (good_state hb5).1
    clear hb4 hb5 HB3
    go_wp2_with fail
    refine hK.out _ _ (fun _ => S2) ?_
    clear hK K
    iterate 3
      refine wpMix_take (v := ?_) rfl rfl ?_ ?_
      rotate_left
      · (intro W hW; (try dsimp only at hW); go_simp) <;> with_reducible rfl
      simp only [Act.put, List.setIfInBounds_toArray, List.set_cons_zero, List.set_cons_succ]
    refine wpMix_nil ?_
    go_wp2_with fail
    go_ret
    exact ⟨by simp, (good_state HB5.out).2⟩
theorem vgood_other (k n : Int) (s : ByteArray) (hk : k < 0 ∨ 4 < k) (w : World) :
    Calls Tryz.prog 5 #[vv k n s] w fun e w' => e = .returned (.bool false) ∧ Below w.heap.size w w' := by
  have KC := fun w => content_other k n s w hk
  have KM := goodOther_any n
  have mg := m_other_good
  clear hk
  go_enter Tryz.func5, Tryz.ntmps5
  go_wp2_with fail
  refine (KC _).mono ?_
  rintro e w1 ⟨rfl, hb⟩
  have hb : Below (w.heap.size + 1) (w.alloc (.cells #[.int .i64 k, .int .i64 n, .string s] 25)) w1 := hb.mono (by simp)
  have HB := Lib.hid hb
  have S0 := (good_state hb.drew).1
  clear hb KC
  go_wp2_with fail
  refine wp_region_mix (fun W => W.cell? ⟨w.heap.size, 0, none⟩ = some (.int .i64 k) ∧ W.cell? ⟨w.heap.size, 1, none⟩ = some (.int .i64 n) ∧ W.cell? ⟨w.heap.size, 2, none⟩ = some (.string s)) 9 [(true, 0), (false, 1), (true, 2), (true, 3), (true, 5), (true, 4), (true, 6), (true, 7), (true, 8)] (by kernel_rfl) (by decide +kernel) rfl (by decide +kernel) S0 ?_
  iterate 1
    refine wpMix_take (v := ?_) rfl rfl ?_ ?_
    rotate_left
    · (intro W hW; (try dsimp only at hW); go_simp) <;> with_reducible rfl
    simp only [Act.put, List.setIfInBounds_toArray, List.set_cons_zero, List.set_cons_succ]
  refine wpMix_run rfl ?_
  intro K hK
  go_wp2_with fail
  refine (KM _).mono ?_
  rintro e w2 ⟨rfl, hb2⟩
  have hb3 := good_next HB.out.drew hb2
  have HB3 := Lib.hid hb3
  have S1 := (good_state hb3).1
  clear hb2 hb3 HB
  go_wp2_with fail
  refine hK.out _ _ (fun _ => S1) ?_
  clear hK K
  iterate 1
    refine wpMix_take (v := ?_) rfl rfl ?_ ?_
    rotate_left
    · (intro W hW; (try dsimp only at hW); go_simp) <;> with_reducible rfl
    simp only [Act.put, List.setIfInBounds_toArray, List.set_cons_zero, List.set_cons_succ]
  iterate 4
    refine wpMix_skip rfl rfl ?_
    simp only [Act.put, List.setIfInBounds_toArray, List.set_cons_zero, List.set_cons_succ]
  iterate 2
    refine wpMix_take (v := ?_) rfl rfl ?_ ?_
    rotate_left
    · (intro W hW; (try dsimp only at hW); go_simp) <;> with_reducible rfl
    simp only [Act.put, List.setIfInBounds_toArray, List.set_cons_zero, List.set_cons_succ]
  refine wpMix_nil ?_
  go_wp2_with fail
  go_ret
  exact ⟨rfl, (good_state HB3.out).2⟩
/-- is it a value? -/
def goodV (k n : Int) (s : ByteArray) : Bool :=
  if k = 0 then n == 0 && s.toList == [] else if k = 1 then s.toList == [] else if k = 2 then goodW (wi n) && s.toList == [] else if k = 3 then decide (s.size ≤ 64) && n == 0 else if k = 4 then (n == 0 || n == 1) && s.toList == [] else false
theorem vgood_any (k n : Int) (s : ByteArray) (h0 : -9223372036854775808 ≤ n) (h1 : n < 9223372036854775808) (w : World) :
    Calls Tryz.prog 5 #[vv k n s] w fun e w' => e = .returned (.bool (goodV k n s)) ∧ Below w.heap.size w w' := by
  have hnil : (⟨#[]⟩ : ByteArray).toList = [] := by simp [Lib.toList_data]
  have hsw : ∀ a b : List UInt8, (a == b) = (b == a) := fun a b => by rw [Bool.eq_iff_iff, beq_iff_eq, beq_iff_eq]; exact eq_comm
  have hsi : ∀ a b : Int, (a == b) = (b == a) := fun a b => by rw [Bool.eq_iff_iff, beq_iff_eq, beq_iff_eq]; exact eq_comm
  unfold goodV
  by_cases c0 : k = 0
  · subst c0
    have := vgood_null n s true goodNull_any w
    simp only [sameV, hnil, Bool.true_and, BEq.rfl] at this
    rw [if_pos rfl, hsi n 0, hsw s.toList []]
    exact this
  by_cases c1 : k = 1
  · subst c1
    have := vgood_int n s true (goodInt_any n) w
    simp only [sameV, hnil, Bool.true_and, BEq.rfl] at this
    rw [if_neg (by decide), if_pos rfl, hsw s.toList []]
    exact this
  by_cases c2 : k = 2
  · subst c2
    have := vgood_float n s _ (goodFloat_any n h0 h1) w
    simp only [sameV, hnil, Bool.true_and, BEq.rfl] at this
    rw [if_neg (by decide), if_neg (by decide), if_pos rfl, hsw s.toList []]
    exact this
  by_cases c3 : k = 3
  · subst c3
    have := vgood_str n s _ (goodStr_any s) w
    simp only [sameV, Bool.true_and, BEq.rfl, Bool.and_true] at this
    rw [if_neg (by decide), if_neg (by decide), if_neg (by decide), if_pos rfl, hsi n 0]
    exact this
  by_cases c4 : k = 4
  · subst c4
    have := vgood_bool n s _ (goodBool_any n) w
    simp only [sameV, hnil, Bool.true_and, BEq.rfl] at this
    rw [if_neg (by decide), if_neg (by decide), if_neg (by decide), if_neg (by decide), if_pos rfl, hsw s.toList []]
    exact this
  rw [if_neg c0, if_neg c1, if_neg c2, if_neg c3, if_neg c4]
  exact vgood_other k n s (by omega) w
end Go.Proofs.YtbijpjoljljlpaaGreatDoor
