/- Contracts of slices.Index at texts and measures, and of twice. Conditions: none. -/
import Derived.Test.YtjlpmhjnfgmmcaaSchC
import Derived.Laws.StructEq
set_option maxRecDepth 100000
namespace Go.Proofs.Ytjlpmhjnfgmmcaa
open Go.RowKit Go.Maps Go.Sort Go.Lib

def sameM (a b : Int × ByteArray) : Bool := a.1 == b.1 && a.2.toList == b.2.toList
theorem same_mea (a b : Int × ByteArray) : sameM a b = decide (a = b) := by
  obtain ⟨x, y⟩ := a
  obtain ⟨z, u⟩ := b
  unfold sameM
  simp only
  rw [Bool.eq_iff_iff, Bool.and_eq_true, decide_eq_true_iff, beq_iff_eq, beq_iff_eq, Lib.toList_data, Lib.toList_data]
  constructor
  · rintro ⟨rfl, h⟩
    rw [ByteArray.ext (Array.toList_inj.1 h)]
  · intro h
    cases h
    exact ⟨rfl, rfl⟩
theorem same_str (a b : ByteArray) : (a.toList == b.toList) = decide (a = b) := by
  rw [Bool.eq_iff_iff, decide_eq_true_iff, beq_iff_eq, Lib.toList_data, Lib.toList_data]
  constructor
  · intro h; exact ByteArray.ext (Array.toList_inj.1 h)
  · rintro rfl; rfl
theorem eql_mea (w : World) (a : Int) (s : ByteArray) (b : Int) (u : ByteArray) : (binOp .eql 41 (.agg #[.int .i64 a, .string s]) (.agg #[.int .i64 b, .string u])).run Try.prog w = .ok (.bool (sameM (a, s) (b, u))) w := by
  have u3 := Try.underlying3
  have u9 := Try.underlying9
  have hS : Try.prog.underlying 41 = some (.struct (Try.prog.fieldsOf 41)) := by kernel_rfl
  have hp : Try.prog.stoodInHeld 41 = false := by kernel_rfl
  unfold sameM
  rw [run_eql_struct, show (10000 : Nat) = 9999 + 1 from rfl, run_equalIn_agg w 9999 41 _ _ hS hp]
  simp only [Program.fieldsOf, Try.underlying41]
  cases e0 : (a == b) <;> cases e2 : (s.toList == u.toList)
  all_goals (
    go_simp
    try simp_all)
theorem guard_mea (w : World) (o : BinOp) (x y : Operand) (a : Int) (s : ByteArray) (b : Int) (u : ByteArray) : (eqGuard o 41 x y (.agg #[.int .i64 a, .string s]) (.agg #[.int .i64 b, .string u])).run Try.prog w = .ok () w :=
  run_eqGuard_agg w o _ x y _ _ (by kernel_rfl)
set_option maxHeartbeats 1600000 in
theorem at_str {w : World} {p : Option Addr} {n k : Nat} {l : List ByteArray} (hr : Holds w (.slice p n k) (strs l)) (hl : l.length = n) (hn : n ≤ 9223372036854775807) (v : ByteArray) {a : Nat} (ha : l[a]? = some v) :
    Calls Try.prog 52 #[.slice p n k, .string v] w fun e w' => (∃ i : Nat, e = .returned (.int .i64 (i : Int)) ∧ l[i]? = some v ∧ ∀ (j : Nat), j < i → l[j]? ≠ some v) ∧ Below w.heap.size w w' := by
  have HR := Lib.hid hr
  have HN := Lib.hid hn
  have HF := Lib.hid hl
  have HA := Lib.hid ha

  clear hr hn hl ha
  go_enter Try.func52, Try.ntmps52
  go_wp2_with fail
  go_loopw [8] (fun s' W => ∃ i : Nat, s' = .int .i64 i ∧ i ≤ n ∧ Hid (Below w.heap.size w W) ∧ Hid (∀ (j : Nat), j < i → l[j]? ≠ some v)) (fun s' _ => n - (intOf s').toNat)
  case atStart => exact ⟨0, rfl, by omega, Lib.hid (Below.refl _ _), Lib.hid (fun j hj => by omega)⟩
  case round =>
    obtain ⟨i, rfl, hi, hb, hno⟩ := hrel
    by_cases hlt : i < n
    · obtain ⟨x, hx⟩ : ∃ x, l[i]? = some x := ⟨_, List.getElem?_eq_getElem (by rw [HF.out]; exact hlt)⟩
      have hh := HR.out.below hb.out
      obtain ⟨ad, rfl⟩ := hh.ptr (by omega)
      have c0 := hh.cell (show (strs l)[i]? = some (.string x) by unfold strs; rw [List.getElem?_map, hx]; rfl)
      clear hh
      have HX := Lib.hid hx
      have hlt' : (i : Int) < (n : Int) := Int.ofNat_lt.2 hlt
      have b0 : (0 : Int) ≤ (i : Int) := Int.natCast_nonneg i
      have hw := i_next (p := i) (by have := HN.out; omega)
      have HLT := Lib.hid hlt
      have t0 := same_str v x
      cases hq : decide (v = x)
      · rw [hq] at t0
        have HNO : Hid (∀ (j : Nat), j < i + 1 → l[j]? ≠ some v) := Lib.hid (fun j hj hy => by
          by_cases e : j = i
          · subst e; rw [HX.out] at hy; cases hy; exact absurd rfl (of_decide_eq_false hq)
          · exact hno.out j (by omega) hy)
        clear hno hx hq hi hlt
        go_wp2_with fail
        go_roundw
        case rel => exact ⟨i + 1, by go_num, by have := HLT.out; omega, hb, HNO⟩
        case measure => have := HLT.out; simp [intOf]; omega
      · rw [hq] at t0
        have hv := of_decide_eq_true hq
        subst hv
        clear hx hq hi hlt
        go_wp2_with fail
        go_ret
        exact ⟨⟨i, rfl, HX.out, hno.out⟩, hb.out⟩
    · exact absurd HA.out (hno.out a (by have := (List.getElem?_eq_some_iff.1 HA.out).1; have := HF.out; omega))
set_option maxHeartbeats 1600000 in
theorem twice_str {w : World} {p : Option Addr} {n k : Nat} {l : List ByteArray} (hr : Holds w (.slice p n k) (strs l)) (hl : l.length = n) (hn : n ≤ 9223372036854775807) :
    Calls Try.prog 33 #[.slice p n k] w fun e w' => e = .returned (.bool (dupL l)) ∧ Below w.heap.size w w' := by
  have HR := Lib.hid hr
  have HN := Lib.hid hn
  have HF := Lib.hid hl
  obtain ⟨B, hB⟩ : ∃ b, dupL l = b := ⟨_, rfl⟩
  rw [hB]
  have HB := Lib.hid hB
  clear hr hn hl hB
  go_enter Try.func33, Try.ntmps33
  go_wp2_with fail
  go_loopw [7] (fun s' W => ∃ i : Nat, s' = .int .i64 i ∧ i ≤ n ∧ Hid (Below w.heap.size w W) ∧ Hid ((l.take i).Nodup)) (fun s' _ => n - (intOf s').toNat)
  case atStart => exact ⟨0, rfl, by omega, Lib.hid (Below.refl _ _), Lib.hid (by simp)⟩
  case round =>
    obtain ⟨i, rfl, hi, hb, hno⟩ := hrel
    by_cases hlt : i < n
    · obtain ⟨x, hx⟩ : ∃ x, l[i]? = some x := ⟨_, List.getElem?_eq_getElem (by rw [HF.out]; exact hlt)⟩
      have hh := HR.out.below hb.out
      obtain ⟨ad, rfl⟩ := hh.ptr (by omega)
      have c0 := hh.cell (show (strs l)[i]? = some (.string x) by unfold strs; rw [List.getElem?_map, hx]; rfl)
      have KA := at_str hh HF.out HN.out x hx
      clear hh
      have HX := Lib.hid hx
      have hlt' : (i : Int) < (n : Int) := Int.ofNat_lt.2 hlt
      have b0 : (0 : Int) ≤ (i : Int) := Int.natCast_nonneg i
      have hw := i_next (p := i) (by have := HN.out; omega)
      have HLT := Lib.hid hlt
      have HBX := Lib.hid (show Below w.heap.size w wr from hb.out)
      clear hx hi hlt
      go_wp2_with fail
      refine KA.mono ?_
      rintro e' w2 ⟨⟨j, rfl, h1, h2⟩, hb2⟩
      have HB2 := Lib.hid (HBX.out.trans (hb2.mono HBX.out.size))
      have H1 := Lib.hid h1
      have H2 := Lib.hid h2
      clear h1 h2 hb2 KA
      by_cases e : j = i
      · subst e
        have HNO : Hid ((l.take (j + 1)).Nodup) := Lib.hid (nodup_snoc HX.out hno.out H2.out)
        clear hno
        go_wp2_with fail
        go_roundw
        case rel => exact ⟨j + 1, by go_num, by have := HLT.out; omega, HB2, HNO⟩
        case measure => have := HLT.out; simp [intOf]; omega
      · have hji : j < i := by
          rcases Nat.lt_or_ge i j with g | g
          · exact absurd HX.out (H2.out i g)
          · omega
        have HE : Hid (B = true) := Lib.hid (by rw [← HB.out]; exact dup_yes hji H1.out HX.out)
        have t0 : ((j : Int) != (i : Int)) = true := by rw [bne_iff_ne]; omega
        clear e hji
        go_wp2_with fail
        go_ret
        exact ⟨ret_bool HE.out.symm, HB2.out⟩
    · have HE : Hid (B = false) := Lib.hid (by
        rw [← HB.out]
        have e : l.length = i := by have := HF.out; omega
        exact dup_no (by rw [e]; exact hno.out))
      have hlt' : ¬ ((i : Int) < (n : Int)) := by omega
      clear hno
      go_wp2_with fail
      go_ret
      exact ⟨ret_bool HE.out.symm, hb.out⟩
set_option maxHeartbeats 1600000 in
theorem at_mea {w : World} {p : Option Addr} {n k : Nat} {l : List (Int × ByteArray)} (hr : Holds2 w (.slice p n k) (l.map meaC)) (hl : l.length = n) (hn : n ≤ 9223372036854775807) (v : (Int × ByteArray)) {a : Nat} (ha : l[a]? = some v) :
    Calls Try.prog 55 #[.slice p n k, .agg #[.int .i64 v.1, .string v.2]] w fun e w' => (∃ i : Nat, e = .returned (.int .i64 (i : Int)) ∧ l[i]? = some v ∧ ∀ (j : Nat), j < i → l[j]? ≠ some v) ∧ Below w.heap.size w w' := by
  have HR := Lib.hid hr
  have HN := Lib.hid hn
  have HF := Lib.hid hl
  have HA := Lib.hid ha
  obtain ⟨v1', v2'⟩ := v
  have hb1 : Hid (Below w.heap.size w (w.alloc (.cells #[.int .i64 v1', .string v2'] 41)) ∧ (w.alloc (.cells #[.int .i64 v1', .string v2'] 41)).heap[w.heap.size]? = some (.cells #[.int .i64 v1', .string v2'] 41 (0, 0))) := Lib.hid ⟨box_below w _, heap_alloc_new w _⟩
  clear hr hn hl ha
  go_enter Try.func55, Try.ntmps55
  go_wp2_with fail
  go_loopw [8] (fun s' W => ∃ i : Nat, s' = .int .i64 i ∧ i ≤ n ∧ Hid (Below w.heap.size w W ∧ W.heap[w.heap.size]? = some (.cells #[.int .i64 v1', .string v2'] 41 (0, 0))) ∧ Hid (∀ (j : Nat), j < i → l[j]? ≠ some (v1', v2'))) (fun s' _ => n - (intOf s').toNat)
  case atStart => exact ⟨0, rfl, by omega, hb1, Lib.hid (fun j hj => by omega)⟩
  case round =>
    obtain ⟨i, rfl, hi, hb, hno⟩ := hrel
    by_cases hlt : i < n
    · obtain ⟨x, hx⟩ : ∃ x, l[i]? = some x := ⟨_, List.getElem?_eq_getElem (by rw [HF.out]; exact hlt)⟩
      obtain ⟨ad, rfl, c0, c1⟩ := (HR.out.below hb.out.1).at_ (show (l.map meaC)[i]? = some (meaC x) by rw [List.getElem?_map, hx]; rfl)
      simp only [meaC] at c0 c1
      have v0 := cell_of_row _ _ 0 _ _ _ hb.out.2
      have v1 := cell_of_row _ _ 1 _ _ _ hb.out.2
      simp at v0 v1
      obtain ⟨x, z⟩ := x
      simp only at c0 c1
      have KE := fun W => eql_mea W v1' v2' x z
      have KU := fun W o a b => guard_mea W o a b v1' v2' x z
      have HX := Lib.hid hx
      have hlt' : (i : Int) < (n : Int) := Int.ofNat_lt.2 hlt
      have b0 : (0 : Int) ≤ (i : Int) := Int.natCast_nonneg i
      have hw := i_next (p := i) (by have := HN.out; omega)
      have HLT := Lib.hid hlt
      have t0 := same_mea (v1', v2') (x, z)
      cases hq : decide ((v1', v2') = (x, z))
      · rw [hq] at t0
        have HNO : Hid (∀ (j : Nat), j < i + 1 → l[j]? ≠ some (v1', v2')) := Lib.hid (fun j hj hy => by
          by_cases e : j = i
          · subst e; rw [HX.out] at hy; cases hy; exact absurd rfl (of_decide_eq_false hq)
          · exact hno.out j (by omega) hy)
        clear hno hx hq hi hlt
        go_wp2_with fail
        go_quiet (fail)
        go_wp2_with fail
        go_roundw
        case rel => exact ⟨i + 1, by go_num, by have := HLT.out; omega, Lib.hid ⟨bel_dN hb.out.1 _, hb.out.2⟩, HNO⟩
        case measure => have := HLT.out; simp [intOf]; omega
      · rw [hq] at t0
        have hv := of_decide_eq_true hq
        cases hv
        clear hx hq hi hlt
        go_wp2_with fail
        go_quiet (fail)
        go_wp2_with fail
        go_ret
        exact ⟨⟨i, rfl, HX.out, hno.out⟩, bel_dN hb.out.1 _⟩
    · exact absurd HA.out (hno.out a (by have := (List.getElem?_eq_some_iff.1 HA.out).1; have := HF.out; omega))
set_option maxHeartbeats 1600000 in
theorem twice_mea {w : World} {p : Option Addr} {n k : Nat} {l : List (Int × ByteArray)} (hr : Holds2 w (.slice p n k) (l.map meaC)) (hl : l.length = n) (hn : n ≤ 9223372036854775807) :
    Calls Try.prog 45 #[.slice p n k] w fun e w' => e = .returned (.bool (dupL l)) ∧ Below w.heap.size w w' := by
  have HR := Lib.hid hr
  have HN := Lib.hid hn
  have HF := Lib.hid hl
  obtain ⟨B, hB⟩ : ∃ b, dupL l = b := ⟨_, rfl⟩
  rw [hB]
  have HB := Lib.hid hB
  clear hr hn hl hB
  go_enter Try.func45, Try.ntmps45
  go_wp2_with fail
  go_loopw [7] (fun s' W => ∃ i : Nat, s' = .int .i64 i ∧ i ≤ n ∧ Hid (Below w.heap.size w W) ∧ Hid ((l.take i).Nodup)) (fun s' _ => n - (intOf s').toNat)
  case atStart => exact ⟨0, rfl, by omega, Lib.hid (Below.refl _ _), Lib.hid (by simp)⟩
  case round =>
    obtain ⟨i, rfl, hi, hb, hno⟩ := hrel
    by_cases hlt : i < n
    · obtain ⟨x, hx⟩ : ∃ x, l[i]? = some x := ⟨_, List.getElem?_eq_getElem (by rw [HF.out]; exact hlt)⟩
      have hh := HR.out.below hb.out
      obtain ⟨ad, rfl, c0, c1⟩ := hh.at_ (show (l.map meaC)[i]? = some (meaC x) by rw [List.getElem?_map, hx]; rfl)
      simp only [meaC] at c0 c1
      have hbx := box_below wr (.cells #[.int .i64 x.1, .string x.2] 41)
      have KA := at_mea (hh.below hbx) HF.out HN.out x hx
      clear hh
      have HX := Lib.hid hx
      have hlt' : (i : Int) < (n : Int) := Int.ofNat_lt.2 hlt
      have b0 : (0 : Int) ≤ (i : Int) := Int.natCast_nonneg i
      have hw := i_next (p := i) (by have := HN.out; omega)
      have HLT := Lib.hid hlt
      have HBX := Lib.hid (hb.out.trans (hbx.mono hb.out.size))
      clear hbx
      clear hx hi hlt
      go_wp2_with fail
      refine KA.mono ?_
      rintro e' w2 ⟨⟨j, rfl, h1, h2⟩, hb2⟩
      have HB2 := Lib.hid (HBX.out.trans (hb2.mono HBX.out.size))
      have H1 := Lib.hid h1
      have H2 := Lib.hid h2
      clear h1 h2 hb2 KA
      by_cases e : j = i
      · subst e
        have HNO : Hid ((l.take (j + 1)).Nodup) := Lib.hid (nodup_snoc HX.out hno.out H2.out)
        clear hno
        go_wp2_with fail
        go_roundw
        case rel => exact ⟨j + 1, by go_num, by have := HLT.out; omega, HB2, HNO⟩
        case measure => have := HLT.out; simp [intOf]; omega
      · have hji : j < i := by
          rcases Nat.lt_or_ge i j with g | g
          · exact absurd HX.out (H2.out i g)
          · omega
        have HE : Hid (B = true) := Lib.hid (by rw [← HB.out]; exact dup_yes hji H1.out HX.out)
        have t0 : ((j : Int) != (i : Int)) = true := by rw [bne_iff_ne]; omega
        clear e hji
        go_wp2_with fail
        go_ret
        exact ⟨ret_bool HE.out.symm, HB2.out⟩
    · have HE : Hid (B = false) := Lib.hid (by
        rw [← HB.out]
        have e : l.length = i := by have := HF.out; omega
        exact dup_no (by rw [e]; exact hno.out))
      have hlt' : ¬ ((i : Int) < (n : Int)) := by omega
      clear hno
      go_wp2_with fail
      go_ret
      exact ⟨ret_bool HE.out.symm, hb.out⟩
end Go.Proofs.Ytjlpmhjnfgmmcaa
