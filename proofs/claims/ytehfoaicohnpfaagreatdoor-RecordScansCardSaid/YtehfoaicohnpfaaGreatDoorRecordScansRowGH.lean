/- The texts RefA VbRefGood RefB VbRefBytes RefC, one behind the other; each one's own comment says what it holds. -/
import Derived.Test.YtehfoaicohnpfaaGreatDoorRecordScansRowGC
import Derived.Test.YtehfoaicohnpfaaGreatDoorOrderC
import Derived.Test.YtehfoaicohnpfaaGreatDoorValD
import Derived.Test.YtehfoaicohnpfaaGreatDoorVbRead
/- The document's side of a record: what is zero, plain, and which records may be (a table's, a rollup's, of no kind). Conditions: none. -/
set_option maxRecDepth 100000
namespace Go.Proofs.YtehfoaicohnpfaaGreatDoor
open Go.RowKit Go.Maps Go.Sort Go.Lib

def nTB (tn : ByteArray) (an : Nat) : Bool := (tn.toList == []) && ((an : Int) == 0)
def nRB (rn rt : ByteArray) (bn cn : Nat) : Bool := (rn.toList == []) && ((rt.toList == []) && (((bn : Int) == 0) && ((cn : Int) == 0)))
theorem int_zero (n : Nat) : ((n : Int) == 0) = (n == 0) := by
  rw [Bool.eq_iff_iff, beq_iff_eq, beq_iff_eq]
  omega
theorem nTB_eq (x : RV) : nTB x.tn x.tc.length = noT x := by unfold nTB noT; rw [str_empty, int_zero]
theorem nRB_eq (x : RV) : nRB x.rn x.rt x.rd.length x.rm.length = noR x := by unfold nRB noR; rw [str_empty, str_empty, int_zero, int_zero, Bool.and_assoc, Bool.and_assoc]

set_option maxHeartbeats 1600000 in
theorem refnoT (tn : ByteArray) (a1 : Option Addr) (an ac : Nat) (w : World) : Calls Tryz.prog 50 #[.agg #[.string tn, .slice a1 an ac]] w fun e w' => e = .returned (.bool (nTB tn an)) ∧ Below w.heap.size w w' := by
  unfold nTB
  cases t0 : (tn.toList == [])
  · go_enter Tryz.func50, Tryz.ntmps50
    go_wp2_with fail
    go_ret
    exact ⟨rfl, below_o _ _⟩
  cases t1 : ((an : Int) == 0)
  · go_enter Tryz.func50, Tryz.ntmps50
    go_wp2_with fail
    go_ret
    exact ⟨rfl, below_o _ _⟩
  go_enter Tryz.func50, Tryz.ntmps50
  go_wp2_with fail
  go_ret
  exact ⟨rfl, below_o _ _⟩
set_option maxHeartbeats 1600000 in
theorem refnoR (rn rt : ByteArray) (b1 c1 : Option Addr) (bn bc cn cc : Nat) (w : World) : Calls Tryz.prog 49 #[.agg #[.string rn, .string rt, .slice b1 bn bc, .slice c1 cn cc]] w fun e w' => e = .returned (.bool (nRB rn rt bn cn)) ∧ Below w.heap.size w w' := by
  unfold nRB
  cases t0 : (rn.toList == [])
  · go_enter Tryz.func49, Tryz.ntmps49
    go_wp2_with fail
    go_ret
    exact ⟨rfl, below_o _ _⟩
  cases t1 : (rt.toList == [])
  · go_enter Tryz.func49, Tryz.ntmps49
    go_wp2_with fail
    go_ret
    exact ⟨rfl, below_o _ _⟩
  cases t2 : ((bn : Int) == 0)
  · go_enter Tryz.func49, Tryz.ntmps49
    go_wp2_with fail
    go_ret
    exact ⟨rfl, below_o _ _⟩
  cases t3 : ((cn : Int) == 0)
  · go_enter Tryz.func49, Tryz.ntmps49
    go_wp2_with fail
    go_ret
    exact ⟨rfl, below_o _ _⟩
  go_enter Tryz.func49, Tryz.ntmps49
  go_wp2_with fail
  go_ret
  exact ⟨rfl, below_o _ _⟩
set_option maxHeartbeats 1600000 in
theorem plain_any (k : Int) (tn rn rt nm : ByteArray) (a1 b1 c1 d1 : Option Addr) (an ac bn bc cn cc dn dc : Nat) (w : World) : Calls Tryz.prog 21 #[.agg #[.int .i64 k, .string tn, .slice a1 an ac, .string rn, .string rt, .slice b1 bn bc, .slice c1 cn cc, .string nm, .slice d1 dn dc]] w fun e w' => e = .returned (.agg #[.int .i64 k, .string tn, .slice a1 an ac, .string rn, .string rt, .slice b1 bn bc, .slice c1 cn cc, .string nm, .slice d1 dn dc]) ∧ Below w.heap.size w w' := by
  go_enter Tryz.func21, Tryz.ntmps21
  go_wp2_with fail
  refine bodyPost_ret (v := .agg #[.int .i64 k, .string tn, .slice a1 an ac, .string rn, .string rt, .slice b1 bn bc, .slice c1 cn cc, .string nm, .slice d1 dn dc]) ?_ rfl ⟨rfl, ?_⟩
  · simp [results, Tryz.results21, go_sem]
  · exact (below_o w _).alloc (by simp) _
theorem boxT {t : TypeId} {w V : World} {k : Int} {s1 s2 s3 s4 : ByteArray} {a b c d : Value} (h : V.heap[w.heap.size]? = some (.cells #[.int .i64 k, .string s1, a, .string s2, .string s3, b, c, .string s4, d] t (0, 0))) :
    V.cell? ⟨w.heap.size, 0, none⟩ = some (.int .i64 k) ∧ V.cell? ⟨w.heap.size, 1, none⟩ = some (.string s1) ∧ V.cell? ⟨w.heap.size, 2, none⟩ = some a ∧ V.cell? ⟨w.heap.size, 3, none⟩ = some (.string s2) ∧ V.cell? ⟨w.heap.size, 4, none⟩ = some (.string s3) ∧ V.cell? ⟨w.heap.size, 5, none⟩ = some b ∧ V.cell? ⟨w.heap.size, 6, none⟩ = some c ∧ V.cell? ⟨w.heap.size, 7, none⟩ = some (.string s4) ∧ V.cell? ⟨w.heap.size, 8, none⟩ = some d := by
  refine ⟨?_, ?_, ?_, ?_, ?_, ?_, ?_, ?_, ?_⟩ <;> (rw [cell_of_row _ _ _ _ _ _ h]; rfl)
def G1 (rn rt nm : ByteArray) (an bn cn dn : Nat) : Bool := decide ((1 : Int) ≤ (an : Int)) && (decide ((an : Int) ≤ 8) && (nRB rn rt bn cn && ((nm.toList == []) && ((dn : Int) == 0))))
def G2 (tn nm : ByteArray) (an bn cn dn : Nat) : Bool := decide ((bn : Int) ≤ 8) && (decide ((cn : Int) ≤ 16) && (nTB tn an && ((nm.toList == []) && ((dn : Int) == 0))))
set_option maxHeartbeats 3200000 in
theorem refgood_1 (tn rn rt nm : ByteArray) (a1 b1 c1 d1 : Option Addr) (an ac bn bc cn cc dn dc : Nat) (w : World) : Calls Tryz.prog 33 #[.agg #[.int .i64 1, .string tn, .slice a1 an ac, .string rn, .string rt, .slice b1 bn bc, .slice c1 cn cc, .string nm, .slice d1 dn dc]] w fun e w' => e = .returned (.bool (G1 rn rt nm an bn cn dn)) ∧ Below w.heap.size w w' := by
  have K := fun (V : World) => refnoR rn rt b1 c1 bn bc cn cc V
  unfold G1
  generalize nRB rn rt bn cn = B at *
  cases t0 : decide ((1 : Int) ≤ (an : Int))
  · go_enter Tryz.func33, Tryz.ntmps33
    go_wp2_with fail
    go_ret
    exact ⟨rfl, below_o _ _⟩
  cases t1 : decide ((an : Int) ≤ 8)
  · go_enter Tryz.func33, Tryz.ntmps33
    go_wp2_with fail
    go_ret
    exact ⟨rfl, below_o _ _⟩
  cases B
  · go_enter Tryz.func33, Tryz.ntmps33
    go_wp2_with fail
    refine (K _).mono ?_
    rintro e w1 ⟨rfl, hb⟩
    have FIN := (below_o w (.cells #[.int .i64 1, .string tn, .slice a1 an ac, .string rn, .string rt, .slice b1 bn bc, .slice c1 cn cc, .string nm, .slice d1 dn dc] 44)).trans (hb.mono (by simp))
    obtain ⟨_, _, _, _, _, _, _, c7, c8⟩ := boxT (t := 44) (w := w) (V := w1) (by rw [hb.block _ (by simp)]; exact heap_alloc_new w _)
    clear hb K
    go_wp2_with fail
    go_ret
    exact ⟨rfl, FIN⟩
  cases t2 : (nm.toList == [])
  · go_enter Tryz.func33, Tryz.ntmps33
    go_wp2_with fail
    refine (K _).mono ?_
    rintro e w1 ⟨rfl, hb⟩
    have FIN := (below_o w (.cells #[.int .i64 1, .string tn, .slice a1 an ac, .string rn, .string rt, .slice b1 bn bc, .slice c1 cn cc, .string nm, .slice d1 dn dc] 44)).trans (hb.mono (by simp))
    obtain ⟨_, _, _, _, _, _, _, c7, c8⟩ := boxT (t := 44) (w := w) (V := w1) (by rw [hb.block _ (by simp)]; exact heap_alloc_new w _)
    clear hb K
    go_wp2_with fail
    go_ret
    exact ⟨rfl, FIN⟩
  cases t3 : ((dn : Int) == 0)
  · go_enter Tryz.func33, Tryz.ntmps33
    go_wp2_with fail
    refine (K _).mono ?_
    rintro e w1 ⟨rfl, hb⟩
    have FIN := (below_o w (.cells #[.int .i64 1, .string tn, .slice a1 an ac, .string rn, .string rt, .slice b1 bn bc, .slice c1 cn cc, .string nm, .slice d1 dn dc] 44)).trans (hb.mono (by simp))
    obtain ⟨_, _, _, _, _, _, _, c7, c8⟩ := boxT (t := 44) (w := w) (V := w1) (by rw [hb.block _ (by simp)]; exact heap_alloc_new w _)
    clear hb K
    go_wp2_with fail
    go_ret
    exact ⟨rfl, FIN⟩
  go_enter Tryz.func33, Tryz.ntmps33
  go_wp2_with fail
  refine (K _).mono ?_
  rintro e w1 ⟨rfl, hb⟩
  have FIN := (below_o w (.cells #[.int .i64 1, .string tn, .slice a1 an ac, .string rn, .string rt, .slice b1 bn bc, .slice c1 cn cc, .string nm, .slice d1 dn dc] 44)).trans (hb.mono (by simp))
  obtain ⟨_, _, _, _, _, _, _, c7, c8⟩ := boxT (t := 44) (w := w) (V := w1) (by rw [hb.block _ (by simp)]; exact heap_alloc_new w _)
  clear hb K
  go_wp2_with fail
  go_ret
  exact ⟨rfl, FIN⟩
set_option maxHeartbeats 3200000 in
theorem refgood_2 (tn rn rt nm : ByteArray) (a1 b1 c1 d1 : Option Addr) (an ac bn bc cn cc dn dc : Nat) (w : World) : Calls Tryz.prog 33 #[.agg #[.int .i64 2, .string tn, .slice a1 an ac, .string rn, .string rt, .slice b1 bn bc, .slice c1 cn cc, .string nm, .slice d1 dn dc]] w fun e w' => e = .returned (.bool (G2 tn nm an bn cn dn)) ∧ Below w.heap.size w w' := by
  have K := fun (V : World) => refnoT tn a1 an ac V
  unfold G2
  generalize nTB tn an = B at *
  cases t0 : decide ((bn : Int) ≤ 8)
  · go_enter Tryz.func33, Tryz.ntmps33
    go_wp2_with fail
    go_ret
    exact ⟨rfl, below_o _ _⟩
  cases t1 : decide ((cn : Int) ≤ 16)
  · go_enter Tryz.func33, Tryz.ntmps33
    go_wp2_with fail
    go_ret
    exact ⟨rfl, below_o _ _⟩
  cases B
  · go_enter Tryz.func33, Tryz.ntmps33
    go_wp2_with fail
    refine (K _).mono ?_
    rintro e w1 ⟨rfl, hb⟩
    have FIN := (below_o w (.cells #[.int .i64 2, .string tn, .slice a1 an ac, .string rn, .string rt, .slice b1 bn bc, .slice c1 cn cc, .string nm, .slice d1 dn dc] 44)).trans (hb.mono (by simp))
    obtain ⟨_, _, _, _, _, _, _, c7, c8⟩ := boxT (t := 44) (w := w) (V := w1) (by rw [hb.block _ (by simp)]; exact heap_alloc_new w _)
    clear hb K
    go_wp2_with fail
    go_ret
    exact ⟨rfl, FIN⟩
  cases t2 : (nm.toList == [])
  · go_enter Tryz.func33, Tryz.ntmps33
    go_wp2_with fail
    refine (K _).mono ?_
    rintro e w1 ⟨rfl, hb⟩
    have FIN := (below_o w (.cells #[.int .i64 2, .string tn, .slice a1 an ac, .string rn, .string rt, .slice b1 bn bc, .slice c1 cn cc, .string nm, .slice d1 dn dc] 44)).trans (hb.mono (by simp))
    obtain ⟨_, _, _, _, _, _, _, c7, c8⟩ := boxT (t := 44) (w := w) (V := w1) (by rw [hb.block _ (by simp)]; exact heap_alloc_new w _)
    clear hb K
    go_wp2_with fail
    go_ret
    exact ⟨rfl, FIN⟩
  cases t3 : ((dn : Int) == 0)
  · go_enter Tryz.func33, Tryz.ntmps33
    go_wp2_with fail
    refine (K _).mono ?_
    rintro e w1 ⟨rfl, hb⟩
    have FIN := (below_o w (.cells #[.int .i64 2, .string tn, .slice a1 an ac, .string rn, .string rt, .slice b1 bn bc, .slice c1 cn cc, .string nm, .slice d1 dn dc] 44)).trans (hb.mono (by simp))
    obtain ⟨_, _, _, _, _, _, _, c7, c8⟩ := boxT (t := 44) (w := w) (V := w1) (by rw [hb.block _ (by simp)]; exact heap_alloc_new w _)
    clear hb K
    go_wp2_with fail
    go_ret
    exact ⟨rfl, FIN⟩
  go_enter Tryz.func33, Tryz.ntmps33
  go_wp2_with fail
  refine (K _).mono ?_
  rintro e w1 ⟨rfl, hb⟩
  have FIN := (below_o w (.cells #[.int .i64 2, .string tn, .slice a1 an ac, .string rn, .string rt, .slice b1 bn bc, .slice c1 cn cc, .string nm, .slice d1 dn dc] 44)).trans (hb.mono (by simp))
  obtain ⟨_, _, _, _, _, _, _, c7, c8⟩ := boxT (t := 44) (w := w) (V := w1) (by rw [hb.block _ (by simp)]; exact heap_alloc_new w _)
  clear hb K
  go_wp2_with fail
  go_ret
  exact ⟨rfl, FIN⟩
set_option maxHeartbeats 3200000 in
theorem refgood_no (k : Int) (h1 : k ≠ 1) (h2 : k ≠ 2) (h3 : k ≠ 3) (tn rn rt nm : ByteArray) (a1 b1 c1 d1 : Option Addr) (an ac bn bc cn cc dn dc : Nat) (w : World) : Calls Tryz.prog 33 #[.agg #[.int .i64 k, .string tn, .slice a1 an ac, .string rn, .string rt, .slice b1 bn bc, .slice c1 cn cc, .string nm, .slice d1 dn dc]] w fun e w' => e = .returned (.bool false) ∧ Below w.heap.size w w' := by
  have t1 : (k == 1) = false := by rw [beq_eq_false_iff_ne]; exact h1
  have t2 : (k == 2) = false := by rw [beq_eq_false_iff_ne]; exact h2
  have t3 : (k == 3) = false := by rw [beq_eq_false_iff_ne]; exact h3
  clear h1 h2 h3
  go_enter Tryz.func33, Tryz.ntmps33
  go_wp2_with fail
  go_ret
  exact ⟨rfl, below_o _ _⟩
end Go.Proofs.YtehfoaicohnpfaaGreatDoor
/- Contract of the document's own Good of values. Conditions: none. -/
set_option maxRecDepth 100000
namespace Go.Proofs.YtehfoaicohnpfaaGreatDoor
open Go.RowKit Go.Maps Go.Sort Go.Lib

theorem nil_list : (⟨#[]⟩ : ByteArray).toList = [] := by simp [Lib.toList_data]
theorem refGood_null (n : Int) (s : ByteArray) (w : World) : Calls Tryz.prog 47 #[vv 0 n s] w fun e w' => e = .returned (.bool (n == 0 && s.toList == [])) ∧ Below w.heap.size w w' := by
  have KE := eql_val
  have KU := guard_val
  go_enter Tryz.func47, Tryz.ntmps47
  go_wp2_with fail
  go_ret
  exact ⟨ret_bool (by unfold sameV; rw [nil_list]; cases s.toList <;> simp), (Below.refl _ _).alloc (Nat.le_refl _) _⟩
theorem refGood_int (n : Int) (s : ByteArray) (w : World) : Calls Tryz.prog 47 #[vv 1 n s] w fun e w' => e = .returned (.bool (s.toList == [])) ∧ Below w.heap.size w w' := by
  go_enter Tryz.func47, Tryz.ntmps47
  go_wp2_with fail
  go_ret
  exact ⟨by simp, (Below.refl _ _).alloc (Nat.le_refl _) _⟩
theorem refGood_float (n : Int) (s : ByteArray) (h0 : -9223372036854775808 ≤ n) (h1 : n < 9223372036854775808) (w : World) : Calls Tryz.prog 47 #[vv 2 n s] w fun e w' => e = .returned (.bool (goodW (wi n) && s.toList == [])) ∧ Below w.heap.size w w' := by
  have KG := refGood_any (wi n) (wi_lt n)
  rw [iw_wi n h0 h1] at KG
  generalize goodW (wi n) = g at *
  have hn := nil_list
  clear h0 h1
  cases hs : (s.toList == [])
  · go_enter Tryz.func47, Tryz.ntmps47
    go_wp2_with fail
    go_ret
    exact ⟨by simp, (Below.refl _ _).alloc (Nat.le_refl _) _⟩
  · go_enter Tryz.func47, Tryz.ntmps47
    go_wp2_with fail
    refine (KG _).mono ?_
    rintro e w1 ⟨rfl, rfl⟩
    go_wp2_with fail
    go_ret
    exact ⟨by simp, (Below.refl _ _).alloc (Nat.le_refl _) _⟩
theorem refGood_str (n : Int) (s : ByteArray) (w : World) : Calls Tryz.prog 47 #[vv 3 n s] w fun e w' => e = .returned (.bool (decide (s.size ≤ 64) && n == 0)) ∧ Below w.heap.size w w' := by
  cases e0 : (n == 0)
  · go_enter Tryz.func47, Tryz.ntmps47
    go_wp2_with fail
    go_ret
    exact ⟨by simp, (Below.refl _ _).alloc (Nat.le_refl _) _⟩
  · go_enter Tryz.func47, Tryz.ntmps47
    go_wp2_with fail
    go_ret
    exact ⟨by simp; omega, (Below.refl _ _).alloc (Nat.le_refl _) _⟩
theorem refGood_bool (n : Int) (s : ByteArray) (w : World) : Calls Tryz.prog 47 #[vv 4 n s] w fun e w' => e = .returned (.bool ((n == 0 || n == 1) && s.toList == [])) ∧ Below w.heap.size w w' := by
  have hn := nil_list
  cases hs : (s.toList == []) <;> cases e0 : (n == 0) <;> cases e1 : (n == 1)
  all_goals (
    go_enter Tryz.func47, Tryz.ntmps47
    go_wp2_with fail
    go_ret
    exact ⟨rfl, (Below.refl _ _).alloc (Nat.le_refl _) _⟩)
theorem refGood_other (k n : Int) (s : ByteArray) (hk : k < 0 ∨ 4 < k) (w : World) : Calls Tryz.prog 47 #[vv k n s] w fun e w' => e = .returned (.bool false) ∧ Below w.heap.size w w' := by
  have h0 : (k == 0) = false := by rw [beq_eq_false_iff_ne]; omega
  have h1 : (k == 1) = false := by rw [beq_eq_false_iff_ne]; omega
  have h2 : (k == 2) = false := by rw [beq_eq_false_iff_ne]; omega
  have h3 : (k == 3) = false := by rw [beq_eq_false_iff_ne]; omega
  have h4 : (k == 4) = false := by rw [beq_eq_false_iff_ne]; omega
  clear hk
  go_enter Tryz.func47, Tryz.ntmps47
  go_wp2_with fail
  go_ret
  exact ⟨rfl, (Below.refl _ _).alloc (Nat.le_refl _) _⟩
theorem refvgood_any (k n : Int) (s : ByteArray) (h0 : -9223372036854775808 ≤ n) (h1 : n < 9223372036854775808) (w : World) :
    Calls Tryz.prog 47 #[vv k n s] w fun e w' => e = .returned (.bool (goodV k n s)) ∧ Below w.heap.size w w' := by
  unfold goodV
  by_cases c0 : k = 0
  · subst c0; rw [if_pos rfl]; exact refGood_null n s w
  by_cases c1 : k = 1
  · subst c1; rw [if_neg (by decide), if_pos rfl]; exact refGood_int n s w
  by_cases c2 : k = 2
  · subst c2; rw [if_neg (by decide), if_neg (by decide), if_pos rfl]; exact refGood_float n s h0 h1 w
  by_cases c3 : k = 3
  · subst c3; rw [if_neg (by decide), if_neg (by decide), if_neg (by decide), if_pos rfl]; exact refGood_str n s w
  by_cases c4 : k = 4
  · subst c4; rw [if_neg (by decide), if_neg (by decide), if_neg (by decide), if_neg (by decide), if_pos rfl]; exact refGood_bool n s w
  rw [if_neg c0, if_neg c1, if_neg c2, if_neg c3, if_neg c4]
  exact refGood_other k n s (by omega) w
end Go.Proofs.YtehfoaicohnpfaaGreatDoor
/- The document's side of a record: which batches may be. Conditions: as stated. -/
set_option maxRecDepth 100000
namespace Go.Proofs.YtehfoaicohnpfaaGreatDoor
open Go.RowKit Go.Maps Go.Sort Go.Lib

def FewOk (m : Nat) : Prop := fewB m 8 = true
theorem wrap_nextB {i n : Nat} (h : i < n) (hn : n ≤ 9223372036854775807) : IntKind.i64.wrap ((i : Int) + 1) = (i : Int) + 1 := by rw [IntKind.wrap_i64]; omega
theorem fewB_split {m : Nat} (h : fewB m 8 = true) : decide ((m : Int) < 1) = false ∧ decide ((8 : Int) < (m : Int)) = false := by
  obtain ⟨h1, h2⟩ := fewB_iff.1 h
  exact ⟨decide_eq_false (by omega), decide_eq_false (by omega)⟩
theorem goodB3 {x : RV} (hk : x.k = 3) : goodR x = (goodBat x.ws && (noT x && noR x)) := by
  unfold goodR
  rw [if_neg (by omega), if_neg (by omega), if_pos hk]
set_option maxHeartbeats 6400000 in
theorem refgood_3 (tn rn rt nm : ByteArray) (a1 b1 c1 : Option Addr) (an ac bn bc cn cc : Nat) {w : World} {v : Value} {ws : List (List VV)} (h : RowsH w v ws) (hi : ∀ r ∈ ws, ∀ x ∈ r, x.inI) (hrl : ∀ r ∈ ws, r.length ≤ 9223372036854775807) :
    Calls Tryz.prog 33 #[.agg #[.int .i64 3, .string tn, .slice a1 an ac, .string rn, .string rt, .slice b1 bn bc, .slice c1 cn cc, .string nm, v]] w fun e w' => e = .returned (.bool (goodBat ws && (nTB tn an && nRB rn rt bn cn))) ∧ Below w.heap.size w w' := by
  obtain ⟨a, c, rfl, hc⟩ := h.form
  have KT := fun (V : World) => refnoT tn a1 an ac V
  have KR := fun (V : World) => refnoR rn rt b1 c1 bn bc cn cc V
  generalize nTB tn an = T at *
  generalize nRB rn rt bn cn = R at *
  obtain ⟨n, hn⟩ : ∃ n, n = ws.length := ⟨_, rfl⟩
  have hb0 := below_o w (.cells #[.int .i64 3, .string tn, .slice a1 an ac, .string rn, .string rt, .slice b1 bn bc, .slice c1 cn cc, .string nm, .slice a n c] 44)
  have HCX := Lib.hid (fun (V : World) (hb : Below (w.heap.size + 1) (w.alloc (.cells #[.int .i64 3, .string tn, .slice a1 an ac, .string rn, .string rt, .slice b1 bn bc, .slice c1 cn cc, .string nm, .slice a n c] 44)) V) => boxT (t := 44) (w := w) (V := V) (by rw [hb.block _ (by omega)]; exact heap_alloc_new w _))
  have hs0 : (w.alloc (.cells #[.int .i64 3, .string tn, .slice a1 an ac, .string rn, .string rt, .slice b1 bn bc, .slice c1 cn cc, .string nm, .slice a n c] 44)).heap.size = w.heap.size + 1 := by simp
  obtain ⟨B, hB⟩ : ∃ B, (goodBat ws && (T && R)) = B := ⟨_, rfl⟩
  rw [hB, ← hn]
  by_cases h1 : n < 1
  · obtain rfl : B = false := by rw [← hB]; unfold goodBat fewB; rw [← hn, decide_eq_false (by omega : ¬ 1 ≤ n)]; rfl
    have t0 : decide ((n : Int) < 1) = true := decide_eq_true (by omega)
    clear h hi hB hn hc h1 KT KR HCX hs0 hrl
    go_enter Tryz.func33, Tryz.ntmps33
    go_wp2_with fail
    go_ret
    exact ⟨rfl, hb0⟩
  have t0 : decide ((n : Int) < 1) = false := decide_eq_false (by omega)
  by_cases h2 : 200 < n
  · obtain rfl : B = false := by rw [← hB]; unfold goodBat fewB; rw [← hn, decide_eq_false (by omega : ¬ n ≤ 200), Bool.and_false]; rfl
    have t1 : decide ((200 : Int) < (n : Int)) = true := decide_eq_true (by omega)
    clear h hi hB hn hc h1 h2 KT KR HCX hs0 hrl
    go_enter Tryz.func33, Tryz.ntmps33
    go_wp2_with fail
    go_ret
    exact ⟨rfl, hb0⟩
  have t1 : decide ((200 : Int) < (n : Int)) = false := decide_eq_false (by omega)
  have HS0 := Lib.hid hs0
  have HB0 := Lib.hid hb0
  cases T
  · obtain rfl : B = false := by rw [← hB]; cases goodBat ws <;> rfl
    clear h hi hB hn hc h1 h2 KR hs0 hb0 hrl
    go_enter Tryz.func33, Tryz.ntmps33
    go_wp2_with fail
    refine (KT _).mono ?_
    rintro e w1 ⟨rfl, hb1⟩
    have FIN := HB0.out.trans (hb1.mono HB0.out.size)
    clear hb1
    go_wp2_with fail
    go_ret
    exact ⟨rfl, FIN⟩
  cases R
  · obtain rfl : B = false := by rw [← hB]; cases goodBat ws <;> rfl
    clear h hi hB hn hc h1 h2 hs0 hb0 hrl
    go_enter Tryz.func33, Tryz.ntmps33
    go_wp2_with fail
    refine (KT _).mono ?_
    rintro e w1 ⟨rfl, hb1⟩
    have FIN1 := Lib.hid (HB0.out.trans (hb1.mono HB0.out.size))
    obtain ⟨_, _, _, c3, c4, c5, c6, c7, c8⟩ := HCX.out w1 (hb1.mono (by rw [HS0.out]; exact Nat.le_refl _))
    clear hb1
    go_wp2_with fail
    refine (KR _).mono ?_
    rintro e w2 ⟨rfl, hb2⟩
    have FIN := FIN1.out.trans (hb2.mono FIN1.out.size)
    clear hb2
    go_wp2_with fail
    go_ret
    exact ⟨rfl, FIN⟩
  obtain ⟨r0, hr0⟩ : ∃ r0, ws[0]? = some r0 := ⟨ws[0]'(by omega), List.getElem?_eq_getElem _⟩
  have hh : ws.headD [] = r0 := by
    cases ws with
    | nil => simp at hr0
    | cons x l => simp at hr0; simpa using hr0
  have hBe : B = (fewB r0.length 8 && ws.all (rowG r0.length)) := by
    rw [← hB]
    unfold goodBat
    rw [hh, ← hn, fewB_iff.2 ⟨by omega, by omega⟩]
    simp
  obtain ⟨ad, u0, k0, e0, c0, hv0⟩ := h.at_ hr0
  subst e0
  have e00 : ad.add 0 = ad := by unfold Addr.add; simp
  rw [e00] at c0
  have C0 := Lib.hid (fun (w' : World) (hb : Below w.heap.size w w') => kept_below hb _ _ c0)
  have H := Lib.hid (fun (w' : World) (hb : Below w.heap.size w w') => h.kept (kept_below hb))
  have HI := Lib.hid hi
  have HRL := Lib.hid hrl
  obtain ⟨m, hm⟩ : ∃ m, m = r0.length := ⟨_, rfl⟩
  rw [← hm] at hBe C0
  have HBE := Lib.hid hBe
  rw [← hn] at H
  have p0 : (0 : Int) < (n : Int) := by omega
  have HN := Lib.hid hn
  have H200 : Hid (n ≤ 200) := Lib.hid (by omega)
  clear h hi hB hn hc c0 hh hr0 hv0 e00 hm h1 h2 hb0 hs0 hrl hBe
  go_enter Tryz.func33, Tryz.ntmps33
  go_wp2_with fail
  refine (KT _).mono ?_
  rintro e w1 ⟨rfl, hb1⟩
  have FIN1 := Lib.hid (HB0.out.trans (hb1.mono HB0.out.size))
  have hx1 := hb1.mono (show w.heap.size + 1 ≤ _ by rw [HS0.out]; exact Nat.le_refl _)
  have HX1 := Lib.hid hx1
  obtain ⟨_, _, _, c3, c4, c5, c6, c7, c8⟩ := HCX.out w1 hx1
  clear hb1 hx1 KT
  go_wp2_with fail
  refine (KR _).mono ?_
  rintro e W0 ⟨rfl, hb2⟩
  have HB0 := Lib.hid (FIN1.out.trans (hb2.mono FIN1.out.size))
  clear c3 c4 c5 c6 c7 c8
  obtain ⟨_, _, _, _, _, _, _, _, c8⟩ := HCX.out W0 (HX1.out.trans (hb2.mono (by have := HX1.out.size; rw [HS0.out] at this; exact this)))
  have d0 := C0.out W0 HB0.out
  clear hb2 KR HCX FIN1 HX1
  go_wp2_with fail
  clear c8
  go_loopw [101] (fun k wr => ∃ i : Nat, k = .int .i64 i ∧ i ≤ n ∧ Hid ((ws.take i).all (rowG m) = true ∧ (1 ≤ i → FewOk m) ∧ Below W0.heap.size W0 wr)) (fun k _ => n - (RowKit.intOf k).toNat)
  case atStart => exact ⟨0, rfl, Nat.zero_le _, Lib.hid ⟨by simp, fun h => absurd h (by omega), Below.refl _ _⟩⟩
  case round =>
    clear d0
    obtain ⟨i, rfl, hin, HS⟩ := hrel
    have HBw := Lib.hid (HB0.out.trans (HS.out.2.2.mono HB0.out.size))
    by_cases hlt : i < n
    · obtain ⟨r, hr⟩ : ∃ r, ws[i]? = some r := ⟨ws[i]'(HN.out ▸ hlt), List.getElem?_eq_getElem _⟩
      have b0 : (0 : Int) ≤ (i : Int) := Int.natCast_nonneg i
      have b1 : (i : Int) < (n : Int) := Int.ofNat_lt.2 hlt
      have hw64 := wi_next hlt (Nat.le_trans H200.out (by decide))
      obtain ⟨ad', u, k, e, d0, hv⟩ := (H.out wr HBw.out).at_ hr
      cases e
      have hri := HI.out r (List.mem_of_getElem? hr)
      have hrL := HRL.out r (List.mem_of_getElem? hr)
      by_cases hne : r.length = m
      · have hge := rowG_eq hne
        have HV := Lib.hid (fun (W : World) (hb : Below wr.heap.size wr W) => hv.below hb)
        rw [hne] at d0 HV hrL
        have t2 : ((m : Int) != (m : Int)) = false := by simp
        cases h8 : fewB m 8
        · obtain rfl : B = false := by rw [HBE.out, h8]; rfl
          have FIN := HBw.out
          have hc : decide ((m : Int) < 1) = true ∨ (decide ((m : Int) < 1) = false ∧ decide ((8 : Int) < (m : Int)) = true) := by
            by_cases g1 : m < 1
            · exact .inl (decide_eq_true (by omega))
            · by_cases g2 : 8 < m
              · exact .inr ⟨decide_eq_false (by omega), decide_eq_true (by omega)⟩
              · rw [fewB_iff.2 ⟨by omega, by omega⟩] at h8; cases h8
          clear hr hne HS hv hri hge h8 hrL
          rcases hc with t3 | ⟨t3, t4⟩
          · go_wp2_with fail
            go_ret
            exact ⟨rfl, FIN⟩
          · go_wp2_with fail
            go_ret
            exact ⟨rfl, FIN⟩
        · obtain ⟨t3, t4⟩ := fewB_split h8
          have HRI := Lib.hid hri
          have HRn := Lib.hid hne
          have HRR := Lib.hid hr
          have HGE := Lib.hid hge
          have HTK := Lib.hid HS.out.1
          have H8 := Lib.hid h8
          have HRLm := Lib.hid hrL
          have HWB := Lib.hid HS.out.2.2
          obtain ⟨V, rfl⟩ : ∃ V, V = wr := ⟨_, rfl⟩
          clear hr hne HS hv hri hge h8 hrL
          go_wp2_with fail
          clear d0
          go_loopw [119] (fun k W => ∃ j : Nat, k = .int .i64 j ∧ j ≤ m ∧ Hid ((r.take j).all VV.good = true ∧ Below V.heap.size V W)) (fun k _ => m - (RowKit.intOf k).toNat)
          case atStart => exact ⟨0, rfl, Nat.zero_le _, Lib.hid ⟨by simp, Below.refl _ _⟩⟩
          case round =>
            obtain ⟨j, rfl, hjm, HS⟩ := hrel
            have HBx := Lib.hid (HBw.out.trans (HS.out.2.mono HBw.out.size))
            by_cases hjt : j < m
            · obtain ⟨x, hx⟩ : ∃ x, r[j]? = some x := ⟨r[j]'(HRn.out ▸ hjt), List.getElem?_eq_getElem _⟩
              obtain ⟨ad2, rfl, d0, d1, d2⟩ := (HV.out wr HS.out.2).at_ hx
              have hxi : x.inI := HRI.out x (List.mem_of_getElem? hx)
              have KG := refvgood_any x.k x.n x.s hxi.1 hxi.2
              have g0 : (0 : Int) ≤ (j : Int) := Int.natCast_nonneg j
              have g1 : (j : Int) < (m : Int) := Int.ofNat_lt.2 hjt
              have hw65 := wrap_nextB hjt HRLm.out
              have hg : x.good = goodV x.k x.n x.s := rfl
              cases hgx : goodV x.k x.n x.s
              · rw [hgx] at KG hg
                obtain rfl : B = false := by rw [HBE.out, H8.out, Bool.true_and]; exact all_false HRR.out (HGE.out.trans (all_false hx hg))
                obtain ⟨xk, xn, xs⟩ := x
                simp only at d0 d1 d2 KG
                clear hx hxi hg hgx HS
                go_wp2_with fail
                refine (KG _).mono ?_
                rintro e w2 ⟨rfl, hb2⟩
                have FIN := HBx.out.trans ((fits_box' hb2).2.mono HBx.out.size)
                clear hb2
                go_wp2_with fail
                go_ret
                exact ⟨rfl, FIN⟩
              · rw [hgx] at KG hg
                have hT := (all_take_succ hx HS.out.1).trans hg
                have HT := Lib.hid hT
                have HX := Lib.hid HS.out.2
                obtain ⟨xk, xn, xs⟩ := x
                simp only at d0 d1 d2 KG
                clear hx hxi hg hgx HS hT
                go_wp2_with fail
                refine (KG _).mono ?_
                rintro e w2 ⟨rfl, hb2⟩
                have FIN := Lib.hid (HX.out.trans ((fits_box' hb2).2.mono HX.out.size))
                clear hb2
                go_wp2_with fail
                go_roundw
                case rel => exact ⟨j + 1, by go_num, hjt, Lib.hid ⟨HT.out, FIN.out⟩⟩
                case measure => simp [RowKit.intOf]; omega
            · have hej : j = m := end_eq hjm hjt
              have hT : Hid ((ws.take (i + 1)).all (rowG m) = true ∧ (1 ≤ i + 1 → FewOk m) ∧ Below W0.heap.size W0 wr) := Lib.hid ⟨(all_take_succ HRR.out HTK.out).trans (by rw [HGE.out, ← HS.out.1, hej, ← HRn.out, List.take_length]), fun _ => H8.out, HWB.out.trans (HS.out.2.mono HWB.out.size)⟩
              clear HS
              go_wp2_with fail
              go_roundw
              case rel => exact ⟨i + 1, by go_num, hlt, hT⟩
              case measure => simp [RowKit.intOf]; omega
      · obtain rfl : B = false := by rw [HBE.out, all_false hr (rowG_false hne), Bool.and_false]
        have t2 : ((r.length : Int) != (m : Int)) = true := by rw [bne_iff_ne]; omega
        have FIN := HBw.out
        generalize r.length = rl at *
        clear hr hne HS hv hri hrL
        go_wp2_with fail
        go_ret
        exact ⟨rfl, FIN⟩
    · have hei : i = n := end_eq hin hlt
      obtain rfl : B = true := by
        have h8 : fewB m 8 = true := HS.out.2.1 (by omega)
        rw [HBE.out, h8, Bool.true_and, ← HS.out.1, hei, HN.out, List.take_length]
      have FIN := HBw.out
      clear HS HBE HBw
      go_wp2_with fail
      go_ret
      exact ⟨rfl, FIN⟩
end Go.Proofs.YtehfoaicohnpfaaGreatDoor
/- Contract of the document's own Bytes of values. Conditions: at most 10^9 values. -/
set_option maxRecDepth 100000
namespace Go.Proofs.YtehfoaicohnpfaaGreatDoor
open Go.RowKit Go.Maps Go.Sort Go.Lib

/-- a number's digits behind -/
theorem Out.rput {w wr : World} {v : Value} {acc : List UInt8} (h : Out w wr v acc) (d : Nat) (hd : d < 18446744073709551616) (hx : acc.length ≤ 17592186044000) :
    Calls Tryz.prog 19 #[v, .int .u64 (d : Int)] wr fun e w' => ∃ v', e = .returned v' ∧ Hid (Out w w' v' (acc ++ dig d)) ∧ Below wr.heap.size wr w' := by
  refine (refPut_any (Holds.of_row (by rw [u8s_len]; exact h.1)) d hd hx).mono ?_
  rintro e w' ⟨v', rfl, ho, hb⟩
  exact ⟨v', rfl, ⟨ownsRow_rebase ho (fun g hg => Nat.le_trans h.2.size (ho.lt g hg).1), h.2.trans (hb.mono h.2.size)⟩, hb⟩
theorem Out.rput2 {w wr : World} {v : Value} {acc : List UInt8} (h : Out w wr v acc) (d : Nat) (hd : d < 18446744073709551616) (hx : acc.length ≤ 17592186044000) :
    Calls Tryz.prog 19 #[v, .int .u64 (d : Int)] wr fun e w' => ∃ v', e = .returned v' ∧ Hid (Out w w' v' (acc ++ dig d)) ∧ Below wr.heap.size wr w' ∧ (∀ g, v'.ownBlock = some g → wr.heap.size ≤ g) := by
  refine (refPut_any (Holds.of_row (by rw [u8s_len]; exact h.1)) d hd hx).mono ?_
  rintro e w' ⟨v', rfl, ho, hb⟩
  exact ⟨v', rfl, ⟨ownsRow_rebase ho (fun g hg => Nat.le_trans h.2.size (ho.lt g hg).1), h.2.trans (hb.mono h.2.size)⟩, hb, fun g hg => (ho.lt g hg).1⟩
theorem below_drew_v (w : World) : Below w.heap.size w w.drew := ⟨rfl, rfl, rfl, Nat.le_refl _, fun _ _ => rfl⟩
theorem Out.rput_nil (w : World) (d : Nat) (hd : d < 18446744073709551616) : Calls Tryz.prog 19 #[.slice none 0 0, .int .u64 (d : Int)] w fun e w' => ∃ v', e = .returned v' ∧ Hid (Out w w' v' (dig d)) := by
  refine (refPut_any (Holds.nil w) (xs := []) d hd (by simp)).mono ?_
  rintro e w' ⟨v', rfl, ho, hb⟩
  exact ⟨v', rfl, by simpa using ho, hb⟩
theorem Out.str {w wr : World} {v : Value} {acc : List UInt8} (h : Out w wr v acc) (s : ByteArray) (hl : acc.length + s.size ≤ 17592186044416) :
    ∃ v' w2, (∀ ty, (Builtin.append_ #[22, 9] ty #[v, .string s]).run Tryz.prog wr = .ok v' w2) ∧ Out w w2 v' (acc ++ s.data.toList) ∧ (∀ k, k < wr.heap.size → (∀ g, v.ownBlock = some g → g ≠ k) → w2.heap[k]? = wr.heap[k]?) := by
  obtain ⟨v', w2, r, o, g⟩ := app_str (u := 9) Tryz.underlying9 h.1 h.2.size s hl
  exact ⟨v', w2, r, ⟨o, h.2.trans (below_grown g h.2.size (ownsRow_ge h.1))⟩, fun k hk hne => g.block k hk (fun e => hne k e.symm rfl)⟩
theorem room4 {a b : Nat} (h : a ≤ 200000000000) (h2 : b ≤ 10) : a + b ≤ 17592186044000 := by omega
theorem room5 {a : List UInt8} {b : List UInt8} (h : a.length ≤ 200000000000) (h2 : b.length ≤ 10) : (a ++ b).length ≤ 17592186044000 := by rw [List.length_append]; omega
theorem room0 {a : Nat} (h : a ≤ 200000000000) : a ≤ 17592186044000 := by omega
theorem room6 {a b c : List UInt8} {s : Nat} (h : a.length ≤ 200000000000) (h2 : b.length ≤ 10) (h3 : c.length ≤ 10) (h4 : s ≤ 64) : (a ++ b ++ c).length + s ≤ 17592186044416 := by rw [List.length_append, List.length_append]; omega
set_option maxHeartbeats 6400000 in
theorem refvbytes_any {w : World} {v : Value} {l : List VV} (h : HoldsV w v l) (hl : l.length ≤ 1000000000) (hi : ∀ x ∈ l, x.inI) : Calls Tryz.prog 48 #[v] w (OwnP w (bytesV l)) := by
  obtain ⟨a, c, rfl, hc⟩ := h.form
  have H := Lib.hid h
  have HI := Lib.hid hi
  have HFL := Lib.hid (flatV_len)
  have wl : IntKind.u64.wrap (l.length : Int) = (l.length : Int) := by rw [IntKind.wrap_u64]; omega
  have KP := fun w => Out.rput_nil w l.length (by omega)
  have HDL := Lib.hid (dig_len10 (u := l.length) (by omega))
  obtain ⟨n, hn⟩ : ∃ n, n = l.length := ⟨_, rfl⟩
  rw [← hn] at wl KP hc hl HDL ⊢
  have HNL := Lib.hid hn
  have HL := Lib.hid hl
  clear h hi hn hl
  go_enter Tryz.func48, Tryz.ntmps48
  go_wp2_with fail
  refine (KP _).mono ?_
  rintro e w1 ⟨v1, rfl, H1⟩
  clear KP
  go_wp2_with fail
  go_loopw [3, 5, 12] (fun s3 _ s12 wr => ∃ (i : Nat) (v : Value) (acc : List UInt8), s12 = .int .i64 i ∧ i ≤ n ∧ v = s3 ∧ Hid (Out w wr v acc) ∧ Hid (acc = dig n ++ flatV (l.take i))) (fun _ _ k _ => n - (RowKit.intOf k).toNat)
  case atStart => exact ⟨0, v1, _, rfl, Nat.zero_le _, rfl, H1, Lib.hid (by simp [flatV])⟩
  case round =>
    clear H1
    obtain ⟨i, v, acc, rfl, hin, rfl, HO, HA⟩ := hrel
    by_cases hlt : i < n
    · obtain ⟨x, hx⟩ : ∃ x, l[i]? = some x := ⟨l[i]'(HNL.out ▸ hlt), List.getElem?_eq_getElem _⟩
      obtain ⟨ad, rfl, hc0⟩ := H.out.at_ hx
      have hxi : x.inI := HI.out x (List.mem_of_getElem? hx)
      have HCW : ∀ w', Below w.heap.size w w' → w'.cell? (ad.add (i * 3)) = some (.int .i64 x.k) ∧ w'.cell? ⟨(ad.add (i * 3)).block, (ad.add (i * 3)).off + 1, none⟩ = some (.int .i64 x.n) ∧ w'.cell? ⟨(ad.add (i * 3)).block, (ad.add (i * 3)).off + 2, none⟩ = some (.string x.s) := fun w' hb =>
        ⟨by rw [hb.cell (World.block_lt_of_cell? _ _ hc0.1)]; exact hc0.1, by rw [hb.cell (World.block_lt_of_cell? _ _ hc0.2.1)]; exact hc0.2.1, by rw [hb.cell (World.block_lt_of_cell? _ _ hc0.2.2)]; exact hc0.2.2⟩
      obtain ⟨d0, d1, d2⟩ := HCW wr HO.out.2
      have b0 : (0 : Int) ≤ (i : Int) := Int.natCast_nonneg i
      have b1 : (i : Int) < (n : Int) := Int.ofNat_lt.2 hlt
      have hw64 := wi_next hlt HL.out
      have KG := refvgood_any x.k x.n x.s hxi.1 hxi.2
      have hacc : acc.length ≤ 200000000000 := by
        have h1 := HFL.out (l.take i) (fun y hy => HI.out y (List.mem_of_mem_take hy))
        rw [List.length_take, ← HNL.out] at h1
        rw [HA.out]
        exact room3 HDL.out h1 HL.out
      have HA2 : dig n ++ flatV (l.take (i + 1)) = acc ++ x.norm.bytes := by rw [take_snoc hx, flatV_snoc, HA.out, List.append_assoc]
      replace HA := Lib.hid HA2
      clear HA2 HCW
      obtain ⟨xk, xn, xs⟩ := x
      simp only at d0 d1 d2 KG
      cases hgx : goodV xk xn xs
      · have hny : VV.norm ⟨xk, xn, xs⟩ = VV.none_ := by unfold VV.norm VV.good; rw [hgx]; rfl
        rw [hny] at HA
        rw [hgx] at KG
        have eb : VV.none_.bytes = dig 0 ++ [] := (bytes_null 0 ⟨#[]⟩).1
        have HK := Lib.hid (fun (wx : World) (vx : Value) (ho : Out w wx vx acc) => ho.rput 0 (by decide) (room0 hacc))
        rw [eb, List.append_nil] at HA
        clear hc0 hxi hx hacc hny hgx eb
        go_wp2_with fail
        refine (KG _).mono ?_
        rintro e w3 ⟨rfl, hb3⟩
        have hbx := hb3.mono (show wr.heap.size ≤ _ by simp)
        have hbz : Below wr.heap.size wr w3 := ((Below.refl _ _).alloc (Nat.le_refl _) _).trans hbx
        have hCx := (C3.new wr (.int .i64 xk) (.int .i64 xn) (.string xs) 99).keep hb3 (by simp)
        obtain ⟨z1, z2, z3⟩ := frz3 hb3 (by simp)
        have k1 := hCx.1
        have k2 := hCx.2.1
        have k3 := hCx.2.2
        have S3 := below_set3 hbz (Nat.le_refl _) (.int .i64 0) (.int .i64 0) (.string ⟨#[]⟩)
        have HC := Lib.hid (hCx.set3 (.int .i64 0) (.int .i64 0) (.string ⟨#[]⟩))
        have HZ : Hid (wr.heap.size < (((w3.setCell ⟨wr.heap.size, 0, none⟩ (.int .i64 0)).setCell ⟨wr.heap.size, 1, none⟩ (.int .i64 0)).setCell ⟨wr.heap.size, 2, none⟩ (.string ⟨#[]⟩)).heap.size) := Lib.hid (World.block_lt_of_cell? _ _ HC.out.1)
        have KQ : Calls Tryz.prog 19 #[v, .int .u64 0] _ _ := HK.out _ v (HO.out.next S3)
        clear hb3 hbx hbz KG d0 d1 d2 S3 hCx HK HO
        go_wp2_with fail
        clear z1 z2 z3 k1 k2 k3
        refine KQ.mono ?_
        rintro e w4 ⟨v4, rfl, HO4, hb4⟩
        obtain ⟨k1, k2, k3⟩ := HC.out.keep hb4 HZ.out
        clear KQ HC HZ hb4
        go_wp2_with fail
        go_roundw
        case rel => exact ⟨i + 1, _, _, by go_num, hlt, rfl, HO4, Lib.hid HA.out.symm⟩
        case measure => simp [RowKit.intOf]; omega
      · have hgd : VV.good ⟨xk, xn, xs⟩ = true := hgx
        rw [hgx] at KG
        rw [norm_of hgd] at HA
        clear hc0 hx
        rcases good_cases hgd with e | ⟨e1, e2⟩ | ⟨e1, e2⟩ | ⟨e1, e2, e3⟩ | ⟨e1, e2⟩
        · cases e
          have eb := (bytes_null 0 ⟨#[]⟩).1
          have HK := Lib.hid (fun (wx : World) (vx : Value) (ho : Out w wx vx acc) => ho.rput 0 (by decide) (room0 hacc))
          rw [eb, List.append_nil] at HA
          clear hxi hacc hgx eb hgd
          go_wp2_with fail
          refine (KG _).mono ?_
          rintro e w3 ⟨rfl, hb3⟩
          have hbx := hb3.mono (show wr.heap.size ≤ _ by simp)
          have hbz : Below wr.heap.size wr w3 := ((Below.refl _ _).alloc (Nat.le_refl _) _).trans hbx
          have HC := Lib.hid ((C3.new wr (.int .i64 0) (.int .i64 0) (.string ⟨#[]⟩) 99).keep hb3 (by simp))
          have HZ : Hid (wr.heap.size < w3.heap.size) := Lib.hid (World.block_lt_of_cell? _ _ HC.out.1)
          have KQ : Calls Tryz.prog 19 #[v, .int .u64 0] _ _ := HK.out _ v (HO.out.next hbz)
          obtain ⟨k1, k2, k3⟩ := HC.out
          clear hb3 hbx hbz KG d0 d1 d2 HK HO
          go_wp2_with fail
          clear k1 k2 k3
          refine KQ.mono ?_
          rintro e w4 ⟨v4, rfl, HO5, hb4⟩
          have HC4 := Lib.hid (HC.out.keep hb4 HZ.out)
          obtain ⟨k1, k2, k3⟩ := HC4.out
          clear KQ HC HZ hb4
          go_wp2_with fail
          go_roundw
          case rel => exact ⟨i + 1, _, _, by go_num, hlt, rfl, HO5, Lib.hid HA.out.symm⟩
          case measure => simp [RowKit.intOf]; omega
        · simp only at e1 e2; subst e1 e2
          have eb := (bytes_int xn ⟨#[]⟩).1
          have HK := Lib.hid (fun (wx : World) (vx : Value) (ho : Out w wx vx acc) => ho.rput 1 (by decide) (room0 hacc))
          rw [eb] at HA
          have hz := zig_zag xn hxi.1 hxi.2
          have KZ := fun w => refZig_any xn w hxi.1 (Int.le_of_lt_add_one hxi.2)
          have HK2 := Lib.hid (fun (wx : World) (vx : Value) (ho : Out w wx vx (acc ++ dig 1)) => ho.rput (zgN xn) hz.2 (room5 hacc (dig_len10 (u := 1) (by decide))))
          have hzc := zg_cast xn
          rw [hzc] at HK2
          rw [← List.append_assoc] at HA
          clear hz hzc
          generalize dig (zgN xn) = DZ at *
          generalize zigN xn = ZN at *
          clear hxi hacc hgx eb hgd
          go_wp2_with fail
          refine (KG _).mono ?_
          rintro e w3 ⟨rfl, hb3⟩
          have hbx := hb3.mono (show wr.heap.size ≤ _ by simp)
          have hbz : Below wr.heap.size wr w3 := ((Below.refl _ _).alloc (Nat.le_refl _) _).trans hbx
          have HC := Lib.hid ((C3.new wr (.int .i64 1) (.int .i64 xn) (.string ⟨#[]⟩) 99).keep hb3 (by simp))
          have HZ : Hid (wr.heap.size < w3.heap.size) := Lib.hid (World.block_lt_of_cell? _ _ HC.out.1)
          have KQ : Calls Tryz.prog 19 #[v, .int .u64 1] _ _ := HK.out _ v (HO.out.next hbz)
          obtain ⟨k1, k2, k3⟩ := HC.out
          clear hb3 hbx hbz KG d0 d1 d2 HK HO
          go_wp2_with fail
          clear k1 k2 k3
          refine KQ.mono ?_
          rintro e w4 ⟨v4, rfl, HO5, hb4⟩
          have HC4 := Lib.hid (HC.out.keep hb4 HZ.out)
          obtain ⟨k1, k2, k3⟩ := HC4.out
          clear KQ HC HZ hb4
          have KQ2 := HK2.out _ _ HO5.out
          clear HK2 HO5
          go_wp2_with fail
          refine (KZ _).mono ?_
          rintro e w5 ⟨rfl, rfl⟩
          go_wp2_with fail
          refine KQ2.mono ?_
          rintro e w6 ⟨v6, rfl, HO5, hb6⟩
          clear KQ2 hb6 KZ k1 k2 k3
          go_wp2_with fail
          go_roundw
          case rel => exact ⟨i + 1, _, _, by go_num, hlt, rfl, HO5, Lib.hid HA.out.symm⟩
          case measure => simp [RowKit.intOf]; omega
        · simp only at e1 e2; subst e1 e2
          have eb := (bytes_float xn ⟨#[]⟩).1
          have HK := Lib.hid (fun (wx : World) (vx : Value) (ho : Out w wx vx acc) => ho.rput 2 (by decide) (room0 hacc))
          rw [eb] at HA
          have hz := zig_zag xn hxi.1 hxi.2
          have KZ := fun w => refZig_any xn w hxi.1 (Int.le_of_lt_add_one hxi.2)
          have HK2 := Lib.hid (fun (wx : World) (vx : Value) (ho : Out w wx vx (acc ++ dig 2)) => ho.rput (zgN xn) hz.2 (room5 hacc (dig_len10 (u := 2) (by decide))))
          have hzc := zg_cast xn
          rw [hzc] at HK2
          rw [← List.append_assoc] at HA
          clear hz hzc
          generalize dig (zgN xn) = DZ at *
          generalize zigN xn = ZN at *
          clear hxi hacc hgx eb hgd
          go_wp2_with fail
          refine (KG _).mono ?_
          rintro e w3 ⟨rfl, hb3⟩
          have hbx := hb3.mono (show wr.heap.size ≤ _ by simp)
          have hbz : Below wr.heap.size wr w3 := ((Below.refl _ _).alloc (Nat.le_refl _) _).trans hbx
          have HC := Lib.hid ((C3.new wr (.int .i64 2) (.int .i64 xn) (.string ⟨#[]⟩) 99).keep hb3 (by simp))
          have HZ : Hid (wr.heap.size < w3.heap.size) := Lib.hid (World.block_lt_of_cell? _ _ HC.out.1)
          have KQ : Calls Tryz.prog 19 #[v, .int .u64 2] _ _ := HK.out _ v (HO.out.next hbz)
          obtain ⟨k1, k2, k3⟩ := HC.out
          clear hb3 hbx hbz KG d0 d1 d2 HK HO
          go_wp2_with fail
          clear k1 k2 k3
          refine KQ.mono ?_
          rintro e w4 ⟨v4, rfl, HO5, hb4⟩
          have HC4 := Lib.hid (HC.out.keep hb4 HZ.out)
          obtain ⟨k1, k2, k3⟩ := HC4.out
          clear KQ HC HZ hb4
          have KQ2 := HK2.out _ _ HO5.out
          clear HK2 HO5
          go_wp2_with fail
          refine (KZ _).mono ?_
          rintro e w5 ⟨rfl, rfl⟩
          go_wp2_with fail
          refine KQ2.mono ?_
          rintro e w6 ⟨v6, rfl, HO5, hb6⟩
          clear KQ2 hb6 KZ k1 k2 k3
          go_wp2_with fail
          go_roundw
          case rel => exact ⟨i + 1, _, _, by go_num, hlt, rfl, HO5, Lib.hid HA.out.symm⟩
          case measure => simp [RowKit.intOf]; omega
        · simp only at e1 e2 e3; subst e1 e2
          have eb := (bytes_str 0 xs).1
          have HK := Lib.hid (fun (wx : World) (vx : Value) (ho : Out w wx vx acc) => ho.rput 3 (by decide) (room0 hacc))
          rw [eb] at HA
          have hd3 := dig_len10 (u := 3) (by decide)
          have hsz : xs.size < 18446744073709551616 := Nat.lt_of_le_of_lt e3 (by decide)
          have hdz := dig_len10 hsz
          have HK2 := Lib.hid (fun (wx : World) (vx : Value) (ho : Out w wx vx (acc ++ dig 3)) => ho.rput2 xs.size hsz (room5 hacc hd3))
          have HK3 := Lib.hid (fun (wx : World) (vx : Value) (ho : Out w wx vx (acc ++ dig 3 ++ dig xs.size)) => ho.str xs (room6 hacc hd3 hdz e3))
          have wz : IntKind.u64.wrap (xs.size : Int) = (xs.size : Int) := by rw [IntKind.wrap_u64]; exact Int.emod_eq_of_lt (Int.natCast_nonneg _) (Int.ofNat_lt.2 hsz)
          rw [← List.append_assoc, ← List.append_assoc] at HA
          clear hsz hd3 hdz
          generalize dig xs.size = DZ at *
          clear hxi hacc hgx eb hgd e3
          go_wp2_with fail
          refine (KG _).mono ?_
          rintro e w3 ⟨rfl, hb3⟩
          have hbx := hb3.mono (show wr.heap.size ≤ _ by simp)
          have hbz : Below wr.heap.size wr w3 := ((Below.refl _ _).alloc (Nat.le_refl _) _).trans hbx
          have HC := Lib.hid ((C3.new wr (.int .i64 3) (.int .i64 0) (.string xs) 99).keep hb3 (by simp))
          have HZ : Hid (wr.heap.size < w3.heap.size) := Lib.hid (World.block_lt_of_cell? _ _ HC.out.1)
          have KQ : Calls Tryz.prog 19 #[v, .int .u64 3] _ _ := HK.out _ v (HO.out.next hbz)
          obtain ⟨k1, k2, k3⟩ := HC.out
          clear hb3 hbx hbz KG d0 d1 d2 HK HO
          go_wp2_with fail
          clear k1 k2 k3
          refine KQ.mono ?_
          rintro e w4 ⟨v4, rfl, HO5, hb4⟩
          have HC4 := Lib.hid (HC.out.keep hb4 HZ.out)
          obtain ⟨k1, k2, k3⟩ := HC4.out
          clear KQ HC HZ hb4
          have HZ4 : Hid (wr.heap.size < w4.heap.size) := Lib.hid (World.block_lt_of_cell? _ _ k1)
          go_wp2_with fail
          have S0 : w4.drew.cell? ⟨wr.heap.size, 2, none⟩ = some (.string xs) := k3
          clear k1 k2 k3
          refine wp_region_mix (fun W => W.cell? ⟨wr.heap.size, 2, none⟩ = some (.string xs)) 10 [(true, 0), (true, 1), (true, 2), (true, 6), (true, 7), (false, 3), (true, 4), (false, 5), (false, 8), (true, 9)] (by kernel_rfl) (by decide +kernel) rfl (by decide +kernel) S0 ?_
          iterate 5
            refine wpMix_take (v := ?_) rfl rfl ?_ ?_
            rotate_left
            · (intro W hW; (try dsimp only at hW); go_simp) <;> with_reducible rfl
            simp only [Act.put, List.setIfInBounds_toArray, List.set_cons_zero, List.set_cons_succ]
          refine wpMix_run rfl ?_
          intro K hK
          go_wp2_with fail
          refine hK.out _ _ (fun _ => S0) ?_
          clear hK K
          iterate 1
            refine wpMix_take (v := ?_) rfl rfl ?_ ?_
            rotate_left
            · (intro W hW; (try dsimp only at hW); go_simp) <;> with_reducible rfl
            simp only [Act.put, List.setIfInBounds_toArray, List.set_cons_zero, List.set_cons_succ]
          have HO6 := Lib.hid (HO5.out.next (below_drew_v w4))
          have KQ2 := HK2.out _ _ HO6.out
          refine wpMix_run rfl ?_
          intro K hK
          go_wp2_with fail
          refine KQ2.mono ?_
          rintro e w6 ⟨v6, rfl, HO7, hb6, hob⟩
          obtain ⟨v7, w7, r7, O8, g8⟩ := HK3.out _ _ HO7.out
          have S1 : w6.cell? ⟨wr.heap.size, 2, none⟩ = some (.string xs) := by rw [hb6.cell (World.block_lt_of_cell? _ _ S0)]; exact S0
          have hne : ∀ g, v6.ownBlock = some g → g ≠ wr.heap.size := fun g hg => Nat.ne_of_gt (Nat.lt_of_lt_of_le (World.block_lt_of_cell? _ _ S0) (hob g hg))
          have S2 : w7.cell? ⟨wr.heap.size, 2, none⟩ = some (.string xs) := by rw [World.cell?_of_block (w := w6) (g8 _ (World.block_lt_of_cell? _ _ S1) hne)]; exact S1
          have R7 := Lib.hid r7
          have HO9 := Lib.hid O8
          clear HO5 HO6 KQ2 HK2 HK3 hb6 r7 O8 g8 HO7 hne hob
          go_wp2_with fail
          refine hK.out _ _ (fun _ => S1) ?_
          clear hK K
          refine wpMix_run rfl ?_
          intro K hK
          go_wp2_with (at_builtin; refine wpList_append_run2 rfl _ _ 22 9 rfl rfl rfl (R7.out _) ?_)
          refine hK.out _ _ (fun _ => S2) ?_
          clear hK K
          iterate 1
            refine wpMix_take (v := ?_) rfl rfl ?_ ?_
            rotate_left
            · (intro W hW; (try dsimp only at hW); go_simp) <;> with_reducible rfl
            simp only [Act.put, List.setIfInBounds_toArray, List.set_cons_zero, List.set_cons_succ]
          refine wpMix_nil ?_
          go_wp2_with fail
          go_roundw
          case rel => exact ⟨i + 1, _, _, by go_num, hlt, rfl, HO9, Lib.hid HA.out.symm⟩
          case measure => simp [RowKit.intOf]; omega
        · simp only at e1 e2; subst e1 e2
          have eb := (bytes_bool xn ⟨#[]⟩).1
          have HK := Lib.hid (fun (wx : World) (vx : Value) (ho : Out w wx vx acc) => ho.rput 4 (by decide) (room0 hacc))
          rw [eb] at HA
          have hz := zig_zag xn hxi.1 hxi.2
          have KZ := fun w => refZig_any xn w hxi.1 (Int.le_of_lt_add_one hxi.2)
          have HK2 := Lib.hid (fun (wx : World) (vx : Value) (ho : Out w wx vx (acc ++ dig 4)) => ho.rput (zgN xn) hz.2 (room5 hacc (dig_len10 (u := 4) (by decide))))
          have hzc := zg_cast xn
          rw [hzc] at HK2
          rw [← List.append_assoc] at HA
          clear hz hzc
          generalize dig (zgN xn) = DZ at *
          generalize zigN xn = ZN at *
          clear hxi hacc hgx eb hgd
          go_wp2_with fail
          refine (KG _).mono ?_
          rintro e w3 ⟨rfl, hb3⟩
          have hbx := hb3.mono (show wr.heap.size ≤ _ by simp)
          have hbz : Below wr.heap.size wr w3 := ((Below.refl _ _).alloc (Nat.le_refl _) _).trans hbx
          have HC := Lib.hid ((C3.new wr (.int .i64 4) (.int .i64 xn) (.string ⟨#[]⟩) 99).keep hb3 (by simp))
          have HZ : Hid (wr.heap.size < w3.heap.size) := Lib.hid (World.block_lt_of_cell? _ _ HC.out.1)
          have KQ : Calls Tryz.prog 19 #[v, .int .u64 4] _ _ := HK.out _ v (HO.out.next hbz)
          obtain ⟨k1, k2, k3⟩ := HC.out
          clear hb3 hbx hbz KG d0 d1 d2 HK HO
          go_wp2_with fail
          clear k1 k2 k3
          refine KQ.mono ?_
          rintro e w4 ⟨v4, rfl, HO5, hb4⟩
          have HC4 := Lib.hid (HC.out.keep hb4 HZ.out)
          obtain ⟨k1, k2, k3⟩ := HC4.out
          clear KQ HC HZ hb4
          have KQ2 := HK2.out _ _ HO5.out
          clear HK2 HO5
          go_wp2_with fail
          refine (KZ _).mono ?_
          rintro e w5 ⟨rfl, rfl⟩
          go_wp2_with fail
          refine KQ2.mono ?_
          rintro e w6 ⟨v6, rfl, HO5, hb6⟩
          clear KQ2 hb6 KZ k1 k2 k3
          go_wp2_with fail
          go_roundw
          case rel => exact ⟨i + 1, _, _, by go_num, hlt, rfl, HO5, Lib.hid HA.out.symm⟩
          case measure => simp [RowKit.intOf]; omega
    · have hei : i = n := end_eq hin hlt
      have e1 : l.take i = l := by rw [hei, HNL.out]; exact List.take_length
      have e2 := HA.out
      rw [e1] at e2
      clear HA e1
      go_wp2_with fail
      go_ret
      exact ⟨_, rfl, by rw [show bytesV l = acc by rw [e2]; unfold bytesV; rw [HNL.out]]; exact HO.out.1, HO.out.2⟩
end Go.Proofs.YtehfoaicohnpfaaGreatDoor
/- The document's side of a record: which may be, and a text behind bytes. Conditions: as stated. -/
set_option maxRecDepth 100000
namespace Go.Proofs.YtehfoaicohnpfaaGreatDoor
open Go.RowKit Go.Maps Go.Sort Go.Lib

theorem noB_eq (x : RV) : noB x = ((x.nm.toList == []) && ((x.ws.length : Int) == 0)) := by unfold noB; rw [str_empty, int_zero]
theorem fewB_eq (n : Nat) : fewB n 8 = (decide ((1 : Int) ≤ (n : Int)) && decide ((n : Int) ≤ 8)) := by
  unfold fewB
  rw [Bool.eq_iff_iff]
  simp
  omega
theorem G1_eq {x : RV} (hk : x.k = 1) : G1 x.rn x.rt x.nm x.tc.length x.rd.length x.rm.length x.ws.length = goodR x := by
  unfold G1 goodR
  rw [if_pos hk, nRB_eq, ← noB_eq, fewB_eq, Bool.and_assoc]
theorem G2_eq {x : RV} (hk : x.k = 2) : G2 x.tn x.nm x.tc.length x.rd.length x.rm.length x.ws.length = goodR x := by
  unfold G2 goodR goodRol
  rw [if_neg (by omega), if_pos hk, nTB_eq, ← noB_eq, Bool.and_assoc]
  have e1 : decide ((x.rd.length : Int) ≤ 8) = decide (x.rd.length ≤ 8) := by rw [decide_eq_decide]; omega
  have e2 : decide ((x.rm.length : Int) ≤ 16) = decide (x.rm.length ≤ 16) := by rw [decide_eq_decide]; omega
  rw [e1, e2]
/-- which records may be, as the document tells it -/
theorem refgood_all {w : World} {x : RV} {a b c d : Value} (h : RecH w x a b c d) (hi : x.inI) (hl : ∀ r ∈ x.ws, r.length ≤ 9223372036854775807) :
    Calls Tryz.prog 33 #[recV x a b c d] w fun e w' => e = .returned (.bool (goodR x)) ∧ Below w.heap.size w w' := by
  unfold recV
  by_cases h1 : x.k = 1
  · obtain ⟨a1, ac, b1, bc, c1, cc, d1, dc, rfl, rfl, rfl, rfl⟩ := h.form
    rw [h1, ← G1_eq h1]
    exact refgood_1 _ _ _ _ _ _ _ _ _ _ _ _ _ _ _ _ w
  by_cases h2 : x.k = 2
  · obtain ⟨a1, ac, b1, bc, c1, cc, d1, dc, rfl, rfl, rfl, rfl⟩ := h.form
    rw [h2, ← G2_eq h2]
    exact refgood_2 _ _ _ _ _ _ _ _ _ _ _ _ _ _ _ _ w
  by_cases h3 : x.k = 3
  · have hw := h.ws
    obtain ⟨a1, ac, b1, bc, c1, cc, d1, dc, rfl, rfl, rfl, rfl⟩ := h.form
    rw [h3, goodB3 h3, ← nTB_eq, ← nRB_eq]
    exact refgood_3 _ _ _ _ _ _ _ _ _ _ _ _ _ hw hi.ws hl
  · obtain ⟨a1, ac, b1, bc, c1, cc, d1, dc, rfl, rfl, rfl, rfl⟩ := h.form
    have e : goodR x = false := by unfold goodR; rw [if_neg h1, if_neg h2, if_neg h3]
    rw [e]
    exact refgood_no x.k h1 h2 h3 _ _ _ _ _ _ _ _ _ _ _ _ _ _ _ _ w
theorem refput_at {w wr : World} {v : Value} {acc : List UInt8} (h : Out w wr v acc) (n : Int) (hl : acc.length ≤ 17592186044000) :
    Calls Tryz.prog 19 #[v, .int .u64 ((uN n : Nat) : Int)] wr (PutP w wr (acc ++ inL n)) := by
  refine (h.rput (uN n) (uN_lt n) hl).mono ?_
  rintro e w' ⟨v', rfl, ho, hb⟩
  exact ⟨v', rfl, ho.out, Typ.below hb⟩
theorem reftext_at {w wr : World} {v : Value} {acc : List UInt8} (h : Out w wr v acc) (s : ByteArray) (hl : acc.length + s.size + 10 ≤ 17592186044000) :
    Calls Tryz.prog 51 #[v, .string s] wr (PutP w wr (acc ++ txL s)) := by
  have KN := refput_at h (s.size : Int) (by omega)
  have ht : txL s = inL (s.size : Int) ++ s.data.toList := by unfold txL inL; rw [uN_nat (by omega)]
  have hd := inL_len (s.size : Int)
  rw [uN_nat (by omega)] at KN
  rw [ht, ← List.append_assoc]
  generalize inL (s.size : Int) = D at *
  obtain ⟨a, c, rfl, _⟩ := ownsRow_form h.1
  have HL := Lib.hid (And.intro hd hl)
  have hwr : IntKind.u64.wrap (s.size : Int) = (s.size : Int) := by rw [IntKind.wrap_u64]; omega
  obtain ⟨m, hm⟩ : ∃ m, acc.length = m := ⟨_, rfl⟩
  rw [hm] at KN ⊢
  clear h hd hl ht hm
  go_enter Tryz.func51, Tryz.ntmps51
  go_wp2_with fail
  refine KN.mono ?_
  rintro e w1 ⟨v1, rfl, ho, hT⟩
  obtain ⟨v', w2, r, o, g⟩ := app_str (u := 9) Tryz.underlying9 ho.1 ho.2.size s (by rw [List.length_append]; have := HL.out; omega)
  have FIN : Hid (PutP w wr (acc ++ D ++ s.data.toList) (.returned v') w2) := Lib.hid ⟨v', rfl, ⟨o, ho.2.trans (below_grown g ho.2.size (ownsRow_ge ho.1))⟩, hT.trans (Typ.grown ho.1 g)⟩
  obtain ⟨va, vc, hv, _⟩ := ownsRow_form ho.1
  generalize (acc ++ D).length = N at hv
  subst hv
  have R := Lib.hid r
  clear ho hT o g r KN
  go_wp2_with (at_builtin; refine wpList_append_run2 rfl _ _ 22 9 rfl rfl rfl (R.out _) ?_)
  go_ret
  exact FIN.out
end Go.Proofs.YtehfoaicohnpfaaGreatDoor
