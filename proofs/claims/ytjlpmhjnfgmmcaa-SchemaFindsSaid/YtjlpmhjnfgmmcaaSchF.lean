/- Contracts of first, and of slices.ContainsFunc at columns, measures and texts. Conditions: as stated. -/
import Derived.Test.YtjlpmhjnfgmmcaaSchR
import Derived.Test.YtjlpmhjnfgmmcaaSchQ
set_option maxRecDepth 100000
namespace Go.Proofs.Ytjlpmhjnfgmmcaa
open Go.RowKit Go.Maps Go.Sort Go.Lib

/-- a function with a body is entered -/
def Ent (f : Nat) : Prop := ∀ (args : Array Value) (W : World), (callFunc f args).run Try.prog W = .ok (.enter f args) W
theorem ent_of {f : Nat} {fn : Func} (hf : Try.prog.funcs[f]? = some fn) (hname : (fn.name == "runtime.NumGoroutine") = false) {c : Code} (hb : fn.body = some c) : Ent f := fun args W => by
  have h1 : fn.name ≠ "runtime.NumGoroutine" := by simpa using hname
  simp [callFunc, hf, h1, hb]
/-- a fault: its error, the function that asks, what that one holds, what it answers -/
structure Flt where
  e : Int
  f : Nat
  c : Array Value
  b : Bool
def firstE : List Flt → Int
  | [] => 0
  | x :: r => if x.b = true then x.e else firstE r
def fltC (x : Flt) : Value × Value := (.int .i64 x.e, .func (.func x.f) #[] x.c)
theorem first_skip : ∀ (fs : List Flt) (i : Nat) (x : Flt), fs[i]? = some x → (∀ (j : Nat) (y : Flt), j < i → fs[j]? = some y → y.b = false) → x.b = true → firstE fs = x.e
  | [], i, x, h, _, _ => by simp at h
  | y :: r, 0, x, h, _, hb => by
    simp at h
    subst h
    unfold firstE
    rw [if_pos hb]
  | y :: r, i + 1, x, h, hn, hb => by
    unfold firstE
    rw [hn 0 y (by omega) rfl, if_neg (by decide)]
    exact first_skip r i x (by simpa using h) (fun j z hj hz => hn (j + 1) z (by omega) (by simpa using hz)) hb
theorem first_none : ∀ (fs : List Flt), (∀ (j : Nat) (y : Flt), fs[j]? = some y → y.b = false) → firstE fs = 0
  | [], _ => rfl
  | y :: r, h => by
    unfold firstE
    rw [h 0 y rfl, if_neg (by decide)]
    exact first_none r (fun j z hz => h (j + 1) z (by simpa using hz))
set_option maxHeartbeats 1600000 in
theorem first_any {w : World} {p : Option Addr} {n k : Nat} {fs : List Flt} (hr : Holds2 w (.slice p n k) (fs.map fltC)) (hfs : fs.length = n) (hn : n ≤ 100) (hen : ∀ x ∈ fs, Ent x.f)
    (hc : ∀ (i : Nat) (x : Flt), fs[i]? = some x → (∀ (j : Nat) (y : Flt), j < i → fs[j]? = some y → y.b = false) → ∀ W, Below w.heap.size w W → Calls Try.prog x.f x.c W fun e w' => e = .returned (.bool x.b) ∧ Below W.heap.size W w') :
    Calls Try.prog 25 #[.slice p n k] w fun e w' => e = .returned (.int .i64 (firstE fs)) ∧ Below w.heap.size w w' := by
  have HR := Lib.hid hr
  have HC := Lib.hid hc
  have HN := Lib.hid hn
  have HF := Lib.hid hfs
  have HE := Lib.hid hen
  clear hr hc hn hfs hen
  go_enter Try.func25, Try.ntmps25
  go_wp2_with fail
  go_loopw [7] (fun s W => ∃ i : Nat, s = .int .i64 i ∧ i ≤ n ∧ Hid (Below w.heap.size w W) ∧ Hid (∀ (j : Nat) (y : Flt), j < i → fs[j]? = some y → y.b = false)) (fun s _ => n - (intOf s).toNat)
  case atStart => exact ⟨0, rfl, by omega, Lib.hid (Below.refl _ _), Lib.hid (fun j y hj => by omega)⟩
  case round =>
    obtain ⟨i, rfl, hi, hb, hno⟩ := hrel
    by_cases hlt : i < n
    · obtain ⟨x, hx⟩ : ∃ x, fs[i]? = some x := ⟨_, List.getElem?_eq_getElem (by rw [HF.out]; exact hlt)⟩
      obtain ⟨ad, rfl, c0, c1⟩ := (HR.out.below hb.out).at_ (show (fs.map fltC)[i]? = some (fltC x) by rw [List.getElem?_map, hx]; rfl)
      obtain ⟨e, f, c, b⟩ := x
      have hlt' : (i : Int) < (n : Int) := Int.ofNat_lt.2 hlt
      have b0 : (0 : Int) ≤ (i : Int) := Int.natCast_nonneg i
      have hw := i_next (p := i) (by have := HN.out; omega)
      have KC := HC.out i _ hx hno.out
      have hent := HE.out _ (List.mem_of_getElem? hx)
      unfold Ent at hent
      simp only at hent
      simp only at KC
      simp only [fltC] at c0 c1
      have hb1 : Below wr.heap.size wr (wr.alloc (.cells #[.int .i64 e, .func (.func f) #[] c] 57)) := (Below.refl _ _).alloc (Nat.le_refl _) _
      have hbx := heap_alloc_new wr (.cells #[.int .i64 e, .func (.func f) #[] c] 57)
      have HB1 := Lib.hid (hb.out.trans (hb1.mono hb.out.size))
      have KC1 := KC _ HB1.out
      have HX := Lib.hid hbx
      have HXX := Lib.hid hx
      have HSZ : Hid (wr.heap.size < (wr.alloc (.cells #[.int .i64 e, .func (.func f) #[] c] 57)).heap.size) := Lib.hid (by simp)
      have hsf : ∀ (a : Addr) (W : World) m, (store a (.func (.func f) #[] c) m).run Try.prog W = stored Try.prog W a (.func (.func f) #[] c) m := fun a W m => run_store _ W a _ m rfl
      clear KC hx hb1 hbx hi hlt
      go_wp2_with fail
      refine KC1.mono ?_
      rintro e' w2 ⟨rfl, hb2⟩
      have hx2 : w2.heap[wr.heap.size]? = some (.cells #[.int .i64 e, .func (.func f) #[] c] 57 (0, 0)) := by rw [hb2.block _ HSZ.out]; exact HX.out
      have d0 := cell_of_row _ _ 0 _ _ _ hx2
      have HB2 := Lib.hid (HB1.out.trans (hb2.mono HB1.out.size))
      clear hx2 hb2 KC1 HX
      cases b
      · have HNO : Hid (∀ (j : Nat) (y : Flt), j < i + 1 → fs[j]? = some y → y.b = false) := Lib.hid (fun j y hj hy => by
          by_cases e : j = i
          · subst e; rw [HXX.out] at hy; cases hy; rfl
          · exact hno.out j y (by omega) hy)
        clear HXX hno d0
        go_wp2_with fail
        go_roundw
        case rel => exact ⟨i + 1, by go_num, by omega, HB2, HNO⟩
        case measure => simp [intOf]; omega
      · have HE : Hid (firstE fs = e) := Lib.hid (first_skip fs i _ HXX.out hno.out rfl)
        clear HXX hno
        simp at d0
        go_wp2_with fail
        go_ret
        exact ⟨ret_int HE.out.symm, HB2.out⟩
    · have HE : Hid (firstE fs = 0) := Lib.hid (first_none fs (fun j y hy => hno.out j y (by have := (List.getElem?_eq_some_iff.1 hy).1; have := HF.out; omega) hy))
      have hlt' : ¬ ((i : Int) < (n : Int)) := by omega
      clear hno
      go_wp2_with fail
      go_ret
      exact ⟨ret_int HE.out.symm, hb.out⟩
/-- IndexFunc and ContainsFunc at head -/
theorem any_false {α : Type} {l : List α} {p : α → Bool} (h : ∀ (j : Nat) (y : α), l[j]? = some y → p y = false) : l.any p = false := by
  rw [Bool.eq_false_iff]
  intro g
  obtain ⟨x, hx, hb⟩ := List.any_eq_true.1 g
  obtain ⟨j, hj⟩ := List.getElem?_of_mem hx
  rw [h j x hj] at hb; cases hb
set_option maxHeartbeats 1600000 in
theorem idx_col {w : World} {p : Option Addr} {n k : Nat} {l : List (ByteArray × Int)} (hr : Holds2 w (.slice p n k) (l.map colC)) (hl : l.length = n) (hn : n ≤ 9223372036854775807) {F : Nat} {C : Array Value} (hent : Ent F) {q : (ByteArray × Int) → Bool}
    (hc : ∀ x ∈ l, ∀ W, Below w.heap.size w W → Calls Try.prog F (#[.agg #[.string x.1, .int .i64 x.2]] ++ C) W fun e w' => e = .returned (.bool (q x)) ∧ Below W.heap.size W w') :
    Calls Try.prog 51 #[.slice p n k, .func (.func F) #[] C] w fun e w' => ∃ i, e = .returned (.int .i64 i) ∧ decide (0 ≤ i) = l.any q ∧ Below w.heap.size w w' := by
  have HR := Lib.hid hr
  have HC := Lib.hid hc
  have HN := Lib.hid hn
  have HF := Lib.hid hl
  unfold Ent at hent
  clear hr hc hn hl
  go_enter Try.func51, Try.ntmps51
  go_wp2_with fail
  go_loopw [8] (fun s W => ∃ i : Nat, s = .int .i64 i ∧ i ≤ n ∧ Hid (Below w.heap.size w W) ∧ Hid (∀ (j : Nat) (y : (ByteArray × Int)), j < i → l[j]? = some y → q y = false)) (fun s _ => n - (intOf s).toNat)
  case atStart => exact ⟨0, rfl, by omega, Lib.hid (Below.refl _ _), Lib.hid (fun j y hj => by omega)⟩
  case round =>
    obtain ⟨i, rfl, hi, hb, hno⟩ := hrel
    by_cases hlt : i < n
    · obtain ⟨x, hx⟩ : ∃ x, l[i]? = some x := ⟨_, List.getElem?_eq_getElem (by rw [HF.out]; exact hlt)⟩
      obtain ⟨ad, rfl, c0, c1⟩ := (HR.out.below hb.out).at_ (show (l.map colC)[i]? = some (colC x) by rw [List.getElem?_map, hx]; rfl)
      simp only [colC] at c0 c1
      have KC := HC.out x (List.mem_of_getElem? hx) _ hb.out
      have HX := Lib.hid hx
      have hlt' : (i : Int) < (n : Int) := Int.ofNat_lt.2 hlt
      have b0 : (0 : Int) ≤ (i : Int) := Int.natCast_nonneg i
      have hw := i_next (p := i) (by have := HN.out; omega)
      have HLT := Lib.hid hlt
      cases hq : q x
      · rw [hq] at KC
        have HNO : Hid (∀ (j : Nat) (y : (ByteArray × Int)), j < i + 1 → l[j]? = some y → q y = false) := Lib.hid (fun j y hj hy => by
          by_cases e : j = i
          · subst e; rw [HX.out] at hy; cases hy; exact hq
          · exact hno.out j y (by omega) hy)
        clear hno hx hq hi hlt
        go_wp2_with fail
        refine KC.mono ?_
        rintro e' w2 ⟨rfl, hb2⟩
        have HB2 := Lib.hid (hb.out.trans (hb2.mono hb.out.size))
        clear hb2 KC
        go_wp2_with fail
        go_roundw
        case rel => exact ⟨i + 1, by go_num, by have := HLT.out; omega, HB2, HNO⟩
        case measure => have := HLT.out; simp [intOf]; omega
      · rw [hq] at KC
        have HE : Hid (l.any q = true) := Lib.hid (List.any_eq_true.2 ⟨x, List.mem_of_getElem? hx, hq⟩)
        clear hno hx hq hi hlt
        go_wp2_with fail
        refine KC.mono ?_
        rintro e' w2 ⟨rfl, hb2⟩
        have HB2 := Lib.hid (hb.out.trans (hb2.mono hb.out.size))
        clear hb2 KC
        go_wp2_with fail
        go_ret
        exact ⟨_, rfl, by rw [HE.out]; exact decide_eq_true b0, HB2.out⟩
    · have HE : Hid (l.any q = false) := Lib.hid (any_false (fun j y hy => hno.out j y (by have := (List.getElem?_eq_some_iff.1 hy).1; have := HF.out; omega) hy))
      have hlt' : ¬ ((i : Int) < (n : Int)) := by omega
      clear hno
      go_wp2_with fail
      go_ret
      exact ⟨_, rfl, by rw [HE.out]; rfl, hb.out⟩
theorem has_col {w : World} {p : Option Addr} {n k : Nat} {l : List (ByteArray × Int)} (hr : Holds2 w (.slice p n k) (l.map colC)) (hl : l.length = n) (hn : n ≤ 9223372036854775807) {F : Nat} {C : Array Value} (hent : Ent F) {q : (ByteArray × Int) → Bool}
    (hc : ∀ x ∈ l, ∀ W, Below w.heap.size w W → Calls Try.prog F (#[.agg #[.string x.1, .int .i64 x.2]] ++ C) W fun e w' => e = .returned (.bool (q x)) ∧ Below W.heap.size W w') :
    Calls Try.prog 27 #[.slice p n k, .func (.func F) #[] C] w fun e w' => e = .returned (.bool (l.any q)) ∧ Below w.heap.size w w' := by
  have KI := idx_col hr hl hn hent hc
  generalize l.any q = b at *
  clear hr hl hn hent hc
  go_enter Try.func27, Try.ntmps27
  go_wp2_with fail
  refine KI.mono ?_
  rintro e w' ⟨i, rfl, hi, hb⟩
  cases b
  all_goals (
    go_wp2_with fail
    go_ret
    exact ⟨by rw [← hi]; rfl, hb⟩)
set_option maxHeartbeats 1600000 in
theorem idx_mea {w : World} {p : Option Addr} {n k : Nat} {l : List (Int × ByteArray)} (hr : Holds2 w (.slice p n k) (l.map meaC)) (hl : l.length = n) (hn : n ≤ 9223372036854775807) {F : Nat} {C : Array Value} (hent : Ent F) {q : (Int × ByteArray) → Bool}
    (hc : ∀ x ∈ l, ∀ W, Below w.heap.size w W → Calls Try.prog F (#[.agg #[.int .i64 x.1, .string x.2]] ++ C) W fun e w' => e = .returned (.bool (q x)) ∧ Below W.heap.size W w') :
    Calls Try.prog 53 #[.slice p n k, .func (.func F) #[] C] w fun e w' => ∃ i, e = .returned (.int .i64 i) ∧ decide (0 ≤ i) = l.any q ∧ Below w.heap.size w w' := by
  have HR := Lib.hid hr
  have HC := Lib.hid hc
  have HN := Lib.hid hn
  have HF := Lib.hid hl
  unfold Ent at hent
  clear hr hc hn hl
  go_enter Try.func53, Try.ntmps53
  go_wp2_with fail
  go_loopw [8] (fun s W => ∃ i : Nat, s = .int .i64 i ∧ i ≤ n ∧ Hid (Below w.heap.size w W) ∧ Hid (∀ (j : Nat) (y : (Int × ByteArray)), j < i → l[j]? = some y → q y = false)) (fun s _ => n - (intOf s).toNat)
  case atStart => exact ⟨0, rfl, by omega, Lib.hid (Below.refl _ _), Lib.hid (fun j y hj => by omega)⟩
  case round =>
    obtain ⟨i, rfl, hi, hb, hno⟩ := hrel
    by_cases hlt : i < n
    · obtain ⟨x, hx⟩ : ∃ x, l[i]? = some x := ⟨_, List.getElem?_eq_getElem (by rw [HF.out]; exact hlt)⟩
      obtain ⟨ad, rfl, c0, c1⟩ := (HR.out.below hb.out).at_ (show (l.map meaC)[i]? = some (meaC x) by rw [List.getElem?_map, hx]; rfl)
      simp only [meaC] at c0 c1
      have KC := HC.out x (List.mem_of_getElem? hx) _ hb.out
      have HX := Lib.hid hx
      have hlt' : (i : Int) < (n : Int) := Int.ofNat_lt.2 hlt
      have b0 : (0 : Int) ≤ (i : Int) := Int.natCast_nonneg i
      have hw := i_next (p := i) (by have := HN.out; omega)
      have HLT := Lib.hid hlt
      cases hq : q x
      · rw [hq] at KC
        have HNO : Hid (∀ (j : Nat) (y : (Int × ByteArray)), j < i + 1 → l[j]? = some y → q y = false) := Lib.hid (fun j y hj hy => by
          by_cases e : j = i
          · subst e; rw [HX.out] at hy; cases hy; exact hq
          · exact hno.out j y (by omega) hy)
        clear hno hx hq hi hlt
        go_wp2_with fail
        refine KC.mono ?_
        rintro e' w2 ⟨rfl, hb2⟩
        have HB2 := Lib.hid (hb.out.trans (hb2.mono hb.out.size))
        clear hb2 KC
        go_wp2_with fail
        go_roundw
        case rel => exact ⟨i + 1, by go_num, by have := HLT.out; omega, HB2, HNO⟩
        case measure => have := HLT.out; simp [intOf]; omega
      · rw [hq] at KC
        have HE : Hid (l.any q = true) := Lib.hid (List.any_eq_true.2 ⟨x, List.mem_of_getElem? hx, hq⟩)
        clear hno hx hq hi hlt
        go_wp2_with fail
        refine KC.mono ?_
        rintro e' w2 ⟨rfl, hb2⟩
        have HB2 := Lib.hid (hb.out.trans (hb2.mono hb.out.size))
        clear hb2 KC
        go_wp2_with fail
        go_ret
        exact ⟨_, rfl, by rw [HE.out]; exact decide_eq_true b0, HB2.out⟩
    · have HE : Hid (l.any q = false) := Lib.hid (any_false (fun j y hy => hno.out j y (by have := (List.getElem?_eq_some_iff.1 hy).1; have := HF.out; omega) hy))
      have hlt' : ¬ ((i : Int) < (n : Int)) := by omega
      clear hno
      go_wp2_with fail
      go_ret
      exact ⟨_, rfl, by rw [HE.out]; rfl, hb.out⟩
theorem has_mea {w : World} {p : Option Addr} {n k : Nat} {l : List (Int × ByteArray)} (hr : Holds2 w (.slice p n k) (l.map meaC)) (hl : l.length = n) (hn : n ≤ 9223372036854775807) {F : Nat} {C : Array Value} (hent : Ent F) {q : (Int × ByteArray) → Bool}
    (hc : ∀ x ∈ l, ∀ W, Below w.heap.size w W → Calls Try.prog F (#[.agg #[.int .i64 x.1, .string x.2]] ++ C) W fun e w' => e = .returned (.bool (q x)) ∧ Below W.heap.size W w') :
    Calls Try.prog 39 #[.slice p n k, .func (.func F) #[] C] w fun e w' => e = .returned (.bool (l.any q)) ∧ Below w.heap.size w w' := by
  have KI := idx_mea hr hl hn hent hc
  generalize l.any q = b at *
  clear hr hl hn hent hc
  go_enter Try.func39, Try.ntmps39
  go_wp2_with fail
  refine KI.mono ?_
  rintro e w' ⟨i, rfl, hi, hb⟩
  cases b
  all_goals (
    go_wp2_with fail
    go_ret
    exact ⟨by rw [← hi]; rfl, hb⟩)
set_option maxHeartbeats 1600000 in
theorem idx_str {w : World} {p : Option Addr} {n k : Nat} {l : List ByteArray} (hr : Holds w (.slice p n k) (strs l)) (hl : l.length = n) (hn : n ≤ 9223372036854775807) {F : Nat} {C : Array Value} (hent : Ent F) {q : ByteArray → Bool}
    (hc : ∀ x ∈ l, ∀ W, Below w.heap.size w W → Calls Try.prog F (#[.string x] ++ C) W fun e w' => e = .returned (.bool (q x)) ∧ Below W.heap.size W w') :
    Calls Try.prog 54 #[.slice p n k, .func (.func F) #[] C] w fun e w' => ∃ i, e = .returned (.int .i64 i) ∧ decide (0 ≤ i) = l.any q ∧ Below w.heap.size w w' := by
  have HR := Lib.hid hr
  have HC := Lib.hid hc
  have HN := Lib.hid hn
  have HF := Lib.hid hl
  unfold Ent at hent
  clear hr hc hn hl
  go_enter Try.func54, Try.ntmps54
  go_wp2_with fail
  go_loopw [8] (fun s W => ∃ i : Nat, s = .int .i64 i ∧ i ≤ n ∧ Hid (Below w.heap.size w W) ∧ Hid (∀ (j : Nat) (y : ByteArray), j < i → l[j]? = some y → q y = false)) (fun s _ => n - (intOf s).toNat)
  case atStart => exact ⟨0, rfl, by omega, Lib.hid (Below.refl _ _), Lib.hid (fun j y hj => by omega)⟩
  case round =>
    obtain ⟨i, rfl, hi, hb, hno⟩ := hrel
    by_cases hlt : i < n
    · obtain ⟨x, hx⟩ : ∃ x, l[i]? = some x := ⟨_, List.getElem?_eq_getElem (by rw [HF.out]; exact hlt)⟩
      have hh := HR.out.below hb.out
      obtain ⟨ad, rfl⟩ := hh.ptr (by omega)
      have c0 := hh.cell (show (strs l)[i]? = some (.string x) by unfold strs; rw [List.getElem?_map, hx]; rfl)
      clear hh
      have KC := HC.out x (List.mem_of_getElem? hx) _ hb.out
      have HX := Lib.hid hx
      have hlt' : (i : Int) < (n : Int) := Int.ofNat_lt.2 hlt
      have b0 : (0 : Int) ≤ (i : Int) := Int.natCast_nonneg i
      have hw := i_next (p := i) (by have := HN.out; omega)
      have HLT := Lib.hid hlt
      cases hq : q x
      · rw [hq] at KC
        have HNO : Hid (∀ (j : Nat) (y : ByteArray), j < i + 1 → l[j]? = some y → q y = false) := Lib.hid (fun j y hj hy => by
          by_cases e : j = i
          · subst e; rw [HX.out] at hy; cases hy; exact hq
          · exact hno.out j y (by omega) hy)
        clear hno hx hq hi hlt
        go_wp2_with fail
        refine KC.mono ?_
        rintro e' w2 ⟨rfl, hb2⟩
        have HB2 := Lib.hid (hb.out.trans (hb2.mono hb.out.size))
        clear hb2 KC
        go_wp2_with fail
        go_roundw
        case rel => exact ⟨i + 1, by go_num, by have := HLT.out; omega, HB2, HNO⟩
        case measure => have := HLT.out; simp [intOf]; omega
      · rw [hq] at KC
        have HE : Hid (l.any q = true) := Lib.hid (List.any_eq_true.2 ⟨x, List.mem_of_getElem? hx, hq⟩)
        clear hno hx hq hi hlt
        go_wp2_with fail
        refine KC.mono ?_
        rintro e' w2 ⟨rfl, hb2⟩
        have HB2 := Lib.hid (hb.out.trans (hb2.mono hb.out.size))
        clear hb2 KC
        go_wp2_with fail
        go_ret
        exact ⟨_, rfl, by rw [HE.out]; exact decide_eq_true b0, HB2.out⟩
    · have HE : Hid (l.any q = false) := Lib.hid (any_false (fun j y hy => hno.out j y (by have := (List.getElem?_eq_some_iff.1 hy).1; have := HF.out; omega) hy))
      have hlt' : ¬ ((i : Int) < (n : Int)) := by omega
      clear hno
      go_wp2_with fail
      go_ret
      exact ⟨_, rfl, by rw [HE.out]; rfl, hb.out⟩
theorem has_str {w : World} {p : Option Addr} {n k : Nat} {l : List ByteArray} (hr : Holds w (.slice p n k) (strs l)) (hl : l.length = n) (hn : n ≤ 9223372036854775807) {F : Nat} {C : Array Value} (hent : Ent F) {q : ByteArray → Bool}
    (hc : ∀ x ∈ l, ∀ W, Below w.heap.size w W → Calls Try.prog F (#[.string x] ++ C) W fun e w' => e = .returned (.bool (q x)) ∧ Below W.heap.size W w') :
    Calls Try.prog 42 #[.slice p n k, .func (.func F) #[] C] w fun e w' => e = .returned (.bool (l.any q)) ∧ Below w.heap.size w w' := by
  have KI := idx_str hr hl hn hent hc
  generalize l.any q = b at *
  clear hr hl hn hent hc
  go_enter Try.func42, Try.ntmps42
  go_wp2_with fail
  refine KI.mono ?_
  rintro e w' ⟨i, rfl, hi, hb⟩
  cases b
  all_goals (
    go_wp2_with fail
    go_ret
    exact ⟨by rw [← hi]; rfl, hb⟩)
end Go.Proofs.Ytjlpmhjnfgmmcaa
