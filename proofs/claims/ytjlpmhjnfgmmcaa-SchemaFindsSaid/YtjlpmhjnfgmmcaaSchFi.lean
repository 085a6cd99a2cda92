/- Contracts of Find and Has on both sides. Conditions: as stated. -/
import Derived.Test.YtjlpmhjnfgmmcaaSchD
set_option maxRecDepth 100000
namespace Go.Proofs.Ytjlpmhjnfgmmcaa
open Go.RowKit Go.Maps Go.Sort Go.Lib

/-- a table with the value of its columns -/
abbrev TbQ := ByteArray × Cl × Value
def tbC (t : TbQ) : Value × Value := (.string t.1, t.2.2)
/-- a slice of tables -/
structure TabsH (w : World) (v : Value) (ts : List TbQ) : Prop where
  rows : Holds2 w v (ts.map tbC)
  all : ∀ t ∈ ts, Holds2 w t.2.2 (t.2.1.map colC) ∧ t.1.size ≤ 281474976710656 ∧ (∀ c ∈ t.2.1, c.1.size ≤ 281474976710656) ∧ t.2.1.length * 24 ≤ 140737488355328
theorem TabsH.below {w W : World} {v : Value} {ts : List TbQ} (h : TabsH w v ts) (hb : Below w.heap.size w W) : TabsH W v ts :=
  ⟨h.rows.below hb, fun t ht => ⟨(h.all t ht).1.below hb, (h.all t ht).2⟩⟩
/-- what Find tells: the name, how many columns, is it there -/
def ansT (ts : List TbQ) (s : ByteArray) : ByteArray × Nat × Bool := match ts.find? (fun t => t.1 == s) with
  | some t => (t.1, t.2.1.length, true)
  | none => (⟨#[]⟩, 0, false)
theorem ansT_none {ts : List TbQ} {s : ByteArray} (h : ∀ (i : Nat) (t : TbQ), ts[i]? = some t → (t.1 == s) = false) : ansT ts s = (⟨#[]⟩, 0, false) := by
  unfold ansT
  have : ts.find? (fun t => t.1 == s) = none := by
    rw [List.find?_eq_none]
    intro x hx
    obtain ⟨i, hi⟩ := List.getElem?_of_mem hx
    rw [h i x hi]; decide
  rw [this]
theorem ansT_some {ts : List TbQ} {s : ByteArray} {i : Nat} {t : TbQ} (ht : ts[i]? = some t) (he : (t.1 == s) = true) (h : ∀ (j : Nat) (u : TbQ), j < i → ts[j]? = some u → (u.1 == s) = false) : ansT ts s = (t.1, t.2.1.length, true) := by
  unfold ansT
  obtain ⟨hi, rfl⟩ := List.getElem?_eq_some_iff.1 ht
  have : ts.find? (fun t => t.1 == s) = some ts[i] := by
    rw [List.find?_eq_some_iff_getElem]
    refine ⟨he, i, hi, rfl, fun j hj => ?_⟩
    rw [h j ts[j] hj (List.getElem?_eq_getElem (by omega))]; rfl
  rw [this]
/-- two cells of a block of the call's own, stored into -/
theorem store2 {w W : World} {x0 y0 : Value} {T : TypeId} (hb : Below w.heap.size w W) (h : W.heap[w.heap.size]? = some (.cells #[x0, y0] T (0, 0))) (x y : Value) :
    (W.cell? ⟨w.heap.size, 0, none⟩ = some x0 ∧ W.cell? ⟨w.heap.size, 1, none⟩ = some y0 ∧ W.frozen? ⟨w.heap.size, 0, none⟩ = false ∧ W.frozen? ⟨w.heap.size, 1, none⟩ = false) ∧
    (((W.setCell ⟨w.heap.size, 0, none⟩ x).setCell ⟨w.heap.size, 1, none⟩ y).cell? ⟨w.heap.size, 0, none⟩ = some x ∧ ((W.setCell ⟨w.heap.size, 0, none⟩ x).setCell ⟨w.heap.size, 1, none⟩ y).cell? ⟨w.heap.size, 1, none⟩ = some y) ∧
    Below w.heap.size w ((W.setCell ⟨w.heap.size, 0, none⟩ x).setCell ⟨w.heap.size, 1, none⟩ y) := by
  have h2 := heap_set (j := 1) (heap_set (j := 0) h x) y
  exact ⟨⟨by rw [cell_of_row _ _ _ _ _ _ h]; rfl, by rw [cell_of_row _ _ _ _ _ _ h]; rfl, free_of_row h 0, free_of_row h 1⟩, ⟨by rw [cell_of_row _ _ _ _ _ _ h2]; rfl, by rw [cell_of_row _ _ _ _ _ _ h2]; rfl⟩,
    (hb.setCell (p := ⟨w.heap.size, 0, none⟩) (Nat.le_refl _) x).setCell (p := ⟨w.heap.size, 1, none⟩) (Nat.le_refl _) y⟩
/-- what comes out of Find -/
def FindP (w : World) (A : ByteArray × Nat × Bool) (e : Ending) (w' : World) : Prop := (∃ a c, e = .returned (.tuple #[.agg #[.string A.1, .slice a A.2.1 c], .bool A.2.2])) ∧ Below w.heap.size w w'
set_option maxHeartbeats 3200000 in
theorem find_any {w : World} {p : Option Addr} {n k : Nat} {ts : List TbQ} (hr : TabsH w (.slice p n k) ts) (hl : ts.length = n) (hn : n ≤ 9223372036854775807) (s : ByteArray) :
    Calls Try.prog 17 #[.slice p n k, .string s] w (FindP w (ansT ts s)) := by
  obtain ⟨A, hA⟩ : ∃ A, ansT ts s = A := ⟨_, rfl⟩
  obtain ⟨P, hP⟩ : ∃ P, FindP w A = P := ⟨_, rfl⟩
  rw [hA, hP]
  have HA := Lib.hid hA
  have FIN := Lib.hid (fun (nm : ByteArray) (m : Nat) (ok : Bool) (a : Option Addr) (c : Nat) (w' : World) (h1 : A = (nm, m, ok)) (hb : Below w.heap.size w w') => (by rw [← hP, h1]; exact ⟨⟨a, c, rfl⟩, hb⟩ : P (.returned (.tuple #[.agg #[.string nm, .slice a m c], .bool ok])) w'))
  have hb1 := box_below w (.cells #[.string ⟨#[]⟩, .slice none 0 0] 26)
  have HS0 : Hid (TabsH (w.alloc (.cells #[.string ⟨#[]⟩, .slice none 0 0] 26)) (.slice p n k) ts ∧ Below w.heap.size w (w.alloc (.cells #[.string ⟨#[]⟩, .slice none 0 0] 26)) ∧ (w.alloc (.cells #[.string ⟨#[]⟩, .slice none 0 0] 26)).heap[w.heap.size]? = some (.cells #[.string ⟨#[]⟩, .slice none 0 0] 26 (0, 0))) := Lib.hid ⟨hr.below hb1, hb1, heap_alloc_new w _⟩
  have HN := Lib.hid hn
  have HF := Lib.hid hl
  clear hr hn hl hA hP hb1
  go_enter Try.func17, Try.ntmps17
  go_wp2_with fail
  go_loopw [10] (fun s' W => ∃ i : Nat, s' = .int .i64 i ∧ i ≤ n ∧ Hid (TabsH W (.slice p n k) ts ∧ Below w.heap.size w W ∧ W.heap[w.heap.size]? = some (.cells #[.string ⟨#[]⟩, .slice none 0 0] 26 (0, 0))) ∧ Hid (∀ (j : Nat) (y : TbQ), j < i → ts[j]? = some y → (y.1 == s) = false)) (fun s' _ => n - (RowKit.intOf s').toNat)
  case atStart => exact ⟨0, rfl, by omega, HS0, Lib.hid (fun j y hj => by omega)⟩
  case round =>
    clear HS0
    obtain ⟨i, rfl, hi, hb, hno⟩ := hrel
    by_cases hlt : i < n
    · obtain ⟨x, hx⟩ : ∃ x, ts[i]? = some x := ⟨_, List.getElem?_eq_getElem (by rw [HF.out]; exact hlt)⟩
      obtain ⟨ad, rfl, c0, c1⟩ := hb.out.1.rows.at_ (show (ts.map tbC)[i]? = some (tbC x) by rw [List.getElem?_map, hx]; rfl)
      have hall := hb.out.1.all x (List.mem_of_getElem? hx)
      obtain ⟨xn, xc, xv⟩ := x
      simp only [tbC] at c0 c1
      simp only at hall
      obtain ⟨h1, h2, h3, h4⟩ := hall
      obtain ⟨q, m, rfl, _⟩ := h1.form
      obtain ⟨ln, hln⟩ : ∃ ln, xc.length = ln := ⟨_, rfl⟩
      rw [List.length_map, hln] at c1 h1
      have HX : Hid (∃ V : Value, ts[i]? = some (xn, xc, V)) := Lib.hid ⟨_, hx⟩
      have hlt' : (i : Int) < (n : Int) := Int.ofNat_lt.2 hlt
      have b0 : (0 : Int) ≤ (i : Int) := Int.natCast_nonneg i
      have hw := i_next (p := i) (by have := HN.out; omega)
      have HLT := Lib.hid hlt
      have hbx := box_below wr (.cells #[.string xn, .slice q ln m] 26)
      have HT2 := Lib.hid (And.intro (hb.out.1.below hbx) (And.intro (hb.out.2.1.trans (hbx.mono hb.out.2.1.size)) ((hbx.block _ (lt_of_heap2 hb.out.2.2)).trans hb.out.2.2)))
      have KX := copied_any (h1.below hbx) hln (by rw [← hln]; exact h4) xn h2 h3
      have t0 := beq_list xn s
      cases hq : (xn == s)
      · rw [hq] at t0
        have HNO : Hid (∀ (j : Nat) (y : TbQ), j < i + 1 → ts[j]? = some y → (y.1 == s) = false) := Lib.hid (fun j y hj hy => by
          by_cases e : j = i
          · subst e
            obtain ⟨V, hV⟩ := HX.out
            rw [hV] at hy; cases hy; exact hq
          · exact hno.out j y (by omega) hy)
        clear hno hx hq hi hlt h1 h2 h3 h4 hbx hb KX
        go_wp2_with fail
        go_roundw
        case rel => exact ⟨i + 1, by go_num, by have := HLT.out; omega, HT2, HNO⟩
        case measure => have := HLT.out; simp [RowKit.intOf]; omega
      · rw [hq] at t0
        have HE : Hid (A = (xn, ln, true)) := Lib.hid (by
          obtain ⟨V, hV⟩ := HX.out
          rw [← HA.out, ansT_some hV hq hno.out, hln])
        clear hno hx hq hi hlt h1 h2 h3 h4 hbx hb
        go_wp2_with fail
        refine KX.mono ?_
        rintro e w2 ⟨⟨a, c, rfl, _⟩, hb2⟩
        have hbw := HT2.out.2.1.trans (hb2.mono HT2.out.2.1.size)
        have hxw := (hb2.block _ (lt_of_heap2 HT2.out.2.2)).trans HT2.out.2.2
        obtain ⟨⟨r0, r1, f0, f1⟩, ⟨y0, y1⟩, hbf⟩ := store2 hbw hxw (.string xn) (.slice a ln c)
        have FI := FIN.out xn ln true a c _ HE.out hbf
        clear hbw hxw hb2 HT2 KX c0 c1
        go_wp2_with fail
        refine bodyPost_ret (v := .tuple #[.agg #[.string xn, .slice a ln c], .bool true]) ?_ rfl FI
        simp [results, Try.results17, go_sem, y0, y1]
    · have HE : Hid (A = (⟨#[]⟩, 0, false)) := Lib.hid (by
        rw [← HA.out, ansT_none (fun j y hy => hno.out j y (by have := (List.getElem?_eq_some_iff.1 hy).1; have := HF.out; omega) hy)])
      have hlt' : ¬ ((i : Int) < (n : Int)) := by omega
      obtain ⟨⟨r0, r1, f0, f1⟩, ⟨y0, y1⟩, hbf⟩ := store2 hb.out.2.1 hb.out.2.2 (.string ⟨#[]⟩) (.slice none 0 0)
      have FI := FIN.out ⟨#[]⟩ 0 false none 0 _ HE.out hbf
      clear hno hb
      go_wp2_with fail
      refine bodyPost_ret (v := .tuple #[.agg #[.string ⟨#[]⟩, .slice none 0 0], .bool false]) ?_ rfl FI
      simp [results, Try.results17, go_sem, y0, y1]
set_option maxHeartbeats 3200000 in
theorem refFind_any {w : World} {p : Option Addr} {n k : Nat} {ts : List TbQ} (hr : TabsH w (.slice p n k) ts) (hl : ts.length = n) (hn : n ≤ 9223372036854775807) (s : ByteArray) :
    Calls Try.prog 18 #[.slice p n k, .string s] w (FindP w (ansT ts s)) := by
  obtain ⟨A, hA⟩ : ∃ A, ansT ts s = A := ⟨_, rfl⟩
  obtain ⟨P, hP⟩ : ∃ P, FindP w A = P := ⟨_, rfl⟩
  rw [hA, hP]
  have HA := Lib.hid hA
  have FIN := Lib.hid (fun (nm : ByteArray) (m : Nat) (ok : Bool) (a : Option Addr) (c : Nat) (w' : World) (h1 : A = (nm, m, ok)) (hb : Below w.heap.size w w') => (by rw [← hP, h1]; exact ⟨⟨a, c, rfl⟩, hb⟩ : P (.returned (.tuple #[.agg #[.string nm, .slice a m c], .bool ok])) w'))
  have hb1 := box_below w (.cells #[.string ⟨#[]⟩, .slice none 0 0] 26)
  have HS0 : Hid (TabsH (w.alloc (.cells #[.string ⟨#[]⟩, .slice none 0 0] 26)) (.slice p n k) ts ∧ Below w.heap.size w (w.alloc (.cells #[.string ⟨#[]⟩, .slice none 0 0] 26)) ∧ (w.alloc (.cells #[.string ⟨#[]⟩, .slice none 0 0] 26)).heap[w.heap.size]? = some (.cells #[.string ⟨#[]⟩, .slice none 0 0] 26 (0, 0))) := Lib.hid ⟨hr.below hb1, hb1, heap_alloc_new w _⟩
  have HN := Lib.hid hn
  have HF := Lib.hid hl
  clear hr hn hl hA hP hb1
  go_enter Try.func18, Try.ntmps18
  go_wp2_with fail
  go_loopw [10] (fun s' W => ∃ i : Nat, s' = .int .i64 i ∧ i ≤ n ∧ Hid (TabsH W (.slice p n k) ts ∧ Below w.heap.size w W ∧ W.heap[w.heap.size]? = some (.cells #[.string ⟨#[]⟩, .slice none 0 0] 26 (0, 0))) ∧ Hid (∀ (j : Nat) (y : TbQ), j < i → ts[j]? = some y → (y.1 == s) = false)) (fun s' _ => n - (RowKit.intOf s').toNat)
  case atStart => exact ⟨0, rfl, by omega, HS0, Lib.hid (fun j y hj => by omega)⟩
  case round =>
    clear HS0
    obtain ⟨i, rfl, hi, hb, hno⟩ := hrel
    by_cases hlt : i < n
    · obtain ⟨x, hx⟩ : ∃ x, ts[i]? = some x := ⟨_, List.getElem?_eq_getElem (by rw [HF.out]; exact hlt)⟩
      obtain ⟨ad, rfl, c0, c1⟩ := hb.out.1.rows.at_ (show (ts.map tbC)[i]? = some (tbC x) by rw [List.getElem?_map, hx]; rfl)
      have hall := hb.out.1.all x (List.mem_of_getElem? hx)
      obtain ⟨xn, xc, xv⟩ := x
      simp only [tbC] at c0 c1
      simp only at hall
      obtain ⟨h1, h2, h3, h4⟩ := hall
      obtain ⟨q, m, rfl, _⟩ := h1.form
      obtain ⟨ln, hln⟩ : ∃ ln, xc.length = ln := ⟨_, rfl⟩
      rw [List.length_map, hln] at c1 h1
      have HX : Hid (∃ V : Value, ts[i]? = some (xn, xc, V)) := Lib.hid ⟨_, hx⟩
      have hlt' : (i : Int) < (n : Int) := Int.ofNat_lt.2 hlt
      have b0 : (0 : Int) ≤ (i : Int) := Int.natCast_nonneg i
      have hw := i_next (p := i) (by have := HN.out; omega)
      have HLT := Lib.hid hlt
      have hbx := box_below wr (.cells #[.string xn, .slice q ln m] 26)
      have HT2 := Lib.hid (And.intro (hb.out.1.below hbx) (And.intro (hb.out.2.1.trans (hbx.mono hb.out.2.1.size)) ((hbx.block _ (lt_of_heap2 hb.out.2.2)).trans hb.out.2.2)))
      have KX := hln
      have t0 := beq_list xn s
      cases hq : (xn == s)
      · rw [hq] at t0
        have HNO : Hid (∀ (j : Nat) (y : TbQ), j < i + 1 → ts[j]? = some y → (y.1 == s) = false) := Lib.hid (fun j y hj hy => by
          by_cases e : j = i
          · subst e
            obtain ⟨V, hV⟩ := HX.out
            rw [hV] at hy; cases hy; exact hq
          · exact hno.out j y (by omega) hy)
        clear hno hx hq hi hlt h1 h2 h3 h4 hbx hb KX
        go_wp2_with fail
        go_roundw
        case rel => exact ⟨i + 1, by go_num, by have := HLT.out; omega, HT2, HNO⟩
        case measure => have := HLT.out; simp [RowKit.intOf]; omega
      · rw [hq] at t0
        have HE : Hid (A = (xn, ln, true)) := Lib.hid (by
          obtain ⟨V, hV⟩ := HX.out
          rw [← HA.out, ansT_some hV hq hno.out, hln])
        clear hno hx hq hi hlt h1 h2 h3 h4 hbx hb
        obtain ⟨⟨r0, r1, f0, f1⟩, ⟨y0, y1⟩, hbf⟩ := store2 HT2.out.2.1 HT2.out.2.2 (.string xn) (.slice q ln m)
        have FI := FIN.out xn ln true q m _ HE.out hbf
        clear HT2 KX
        go_wp2_with fail
        refine bodyPost_ret (v := .tuple #[.agg #[.string xn, .slice q ln m], .bool true]) ?_ rfl FI
        simp [results, Try.results18, go_sem, y0, y1]
    · have HE : Hid (A = (⟨#[]⟩, 0, false)) := Lib.hid (by
        rw [← HA.out, ansT_none (fun j y hy => hno.out j y (by have := (List.getElem?_eq_some_iff.1 hy).1; have := HF.out; omega) hy)])
      have hlt' : ¬ ((i : Int) < (n : Int)) := by omega
      obtain ⟨⟨r0, r1, f0, f1⟩, ⟨y0, y1⟩, hbf⟩ := store2 hb.out.2.1 hb.out.2.2 (.string ⟨#[]⟩) (.slice none 0 0)
      have FI := FIN.out ⟨#[]⟩ 0 false none 0 _ HE.out hbf
      clear hno hb
      go_wp2_with fail
      refine bodyPost_ret (v := .tuple #[.agg #[.string ⟨#[]⟩, .slice none 0 0], .bool false]) ?_ rfl FI
      simp [results, Try.results18, go_sem, y0, y1]
set_option maxHeartbeats 3200000 in
theorem refHas_any {w : World} {rn rt : ByteArray} {pd pm : Option Addr} {nd kd nm km : Nat} {ms : Ml} (hm : Holds2 w (.slice pm nm km) (ms.map meaC)) (lm : ms.length = nm) (hnm : nm ≤ 9223372036854775807) (v : Int × ByteArray) :
    Calls Try.prog 20 #[.agg #[.string rn, .string rt, .slice pd nd kd, .slice pm nm km], .agg #[.int .i64 v.1, .string v.2]] w fun e w' => e = .returned (.bool (memM v ms)) ∧ Below w.heap.size w w' := by
  obtain ⟨z, x⟩ := v
  simp only
  have hb1 := box_below w (.cells #[.string rn, .string rt, .slice pd nd kd, .slice pm nm km] 30)
  have hb2 := box_below (w.alloc (.cells #[.string rn, .string rt, .slice pd nd kd, .slice pm nm km] 30)) (.cells #[.int .i64 z, .string x] 41)
  have hs : (w.alloc (.cells #[.string rn, .string rt, .slice pd nd kd, .slice pm nm km] 30)).heap.size = w.heap.size + 1 := by simp
  obtain ⟨W0, hW0⟩ : ∃ W, (w.alloc (.cells #[.string rn, .string rt, .slice pd nd kd, .slice pm nm km] 30)).alloc (.cells #[.int .i64 z, .string x] 41) = W := ⟨_, rfl⟩
  have HS0 : Hid ((Holds2 W0 (.slice pm nm km) (ms.map meaC) ∧ Below w.heap.size w W0) ∧ W0.heap[w.heap.size + 1]? = some (.cells #[.int .i64 z, .string x] 41 (0, 0))) := Lib.hid (by
    rw [← hW0]
    exact ⟨⟨(hm.below hb1).below hb2, hb1.trans (hb2.mono hb1.size)⟩, by rw [← hs]; exact heap_alloc_new _ _⟩)
  have e3 : W0.cell? ⟨w.heap.size, 3, none⟩ = some (.slice pm nm km) := by
    rw [← hW0, cell_of_row _ _ _ _ _ _ ((hb2.block w.heap.size (by simp)).trans (heap_alloc_new w _))]; rfl
  obtain ⟨B, hB⟩ : ∃ b, memM (z, x) ms = b := ⟨_, rfl⟩
  rw [hB]
  have HB := Lib.hid hB
  have LM := Lib.hid lm
  have HN := Lib.hid hnm
  have HSZ : Hid (w.heap.size + 1 < W0.heap.size) := Lib.hid (lt_of_heap2 HS0.out.2)
  clear hm lm hnm hb1 hb2 hs hB
  subst hW0
  go_enter Try.func20, Try.ntmps20
  go_wp2_with fail
  clear e3
  go_loopw [10] (fun s' W => ∃ i : Nat, s' = .int .i64 i ∧ i ≤ nm ∧ Hid ((Holds2 W (.slice pm nm km) (ms.map meaC) ∧ Below w.heap.size w W) ∧ W.heap[w.heap.size + 1]? = some (.cells #[.int .i64 z, .string x] 41 (0, 0))) ∧ Hid (∀ (j : Nat) (y : Int × ByteArray), j < i → ms[j]? = some y → decide (y = (z, x)) = false)) (fun s' _ => nm - (RowKit.intOf s').toNat)
  case atStart => exact ⟨0, rfl, by omega, HS0, Lib.hid (fun j y hj => by omega)⟩
  case round =>
    clear HS0
    obtain ⟨i, rfl, hi, hb, hno⟩ := hrel
    by_cases hlt : i < nm
    · obtain ⟨y, hy⟩ : ∃ y, ms[i]? = some y := ⟨_, List.getElem?_eq_getElem (by rw [LM.out]; exact hlt)⟩
      obtain ⟨ad, rfl, c0, c1⟩ := hb.out.1.1.at_ (show (ms.map meaC)[i]? = some (meaC y) by rw [List.getElem?_map, hy]; rfl)
      obtain ⟨z', y⟩ := y
      simp only [meaC] at c0 c1
      have hbx := box_below wr (.cells #[.int .i64 z', .string y] 41)
      have HB2 := Lib.hid (And.intro (And.intro (hb.out.1.1.below hbx) (hb.out.1.2.trans (hbx.mono hb.out.1.2.size))) ((hbx.block _ (lt_of_heap2 hb.out.2)).trans hb.out.2))
      have e0 := cell_of_row _ _ 0 _ _ _ HB2.out.2
      have e1 := cell_of_row _ _ 1 _ _ _ HB2.out.2
      simp at e0 e1
      have KE := fun W => eql_mea W z' y z x
      have KU := fun W o a b => guard_mea W o a b z' y z x
      have HY := Lib.hid hy
      have hlt' : (i : Int) < (nm : Int) := Int.ofNat_lt.2 hlt
      have b0 : (0 : Int) ≤ (i : Int) := Int.natCast_nonneg i
      have hw := i_next (p := i) (by have := HN.out; omega)
      have HLT := Lib.hid hlt
      have t0 := same_mea (z', y) (z, x)
      cases hq : decide ((z', y) = (z, x))
      · rw [hq] at t0
        have HNO := Lib.hid (no_next (p := fun y : Int × ByteArray => decide (y = (z, x))) hno.out HY.out hq)
        clear hy hq hi hlt hb hno hbx
        go_wp2_with fail
        go_roundw
        case rel => exact ⟨i + 1, by go_num, by have := HLT.out; omega, HB2, HNO⟩
        case measure => have := HLT.out; simp [RowKit.intOf]; omega
      · rw [hq] at t0
        have HE : Hid (B = true) := Lib.hid (by rw [← HB.out]; exact List.any_eq_true.2 ⟨(z', y), List.mem_of_getElem? HY.out, hq⟩)
        clear hy hq hi hlt hb hno hbx
        go_wp2_with fail
        go_ret
        exact ⟨ret_bool HE.out.symm, HB2.out.1.2⟩
    · have HE : Hid (B = false) := Lib.hid (by
        rw [← HB.out]
        exact no_any (p := fun y : Int × ByteArray => decide (y = (z, x))) LM.out (fun j y hj hy => hno.out j y (by omega) hy))
      have hlt' : ¬ ((i : Int) < (nm : Int)) := by omega
      clear hno
      go_wp2_with fail
      go_ret
      exact ⟨ret_bool HE.out.symm, hb.out.1.2⟩
end Go.Proofs.Ytjlpmhjnfgmmcaa
