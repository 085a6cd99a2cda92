/- Contracts of names and of Table. Conditions: none. -/
import Derived.Test.YtjlpmhjnfgmmcaaSchE
import Derived.Test.YtjlpmhjnfgmmcaaPush
set_option maxRecDepth 100000
namespace Go.Proofs.Ytjlpmhjnfgmmcaa
open Go.RowKit Go.Maps Go.Sort Go.Lib

theorem info_str : (Try.prog.info? 9).map (fun i => (i.zero, i.size, i.bytes)) = some (some (.string ⟨#[]⟩), 1, 16) := by kernel_rfl
theorem strs_snoc (l : List ByteArray) (x : ByteArray) : strs (l ++ [x]) = strs l ++ [.string x] := by simp [strs]
/-- the names so far -/
def NmAt (w : World) (cs : Cl) (i : Nat) (v : Value) (W : World) : Prop := W.ownsRow w.heap.size 9 1 v i (strs ((cs.take i).map (·.1))) ∧ Below w.heap.size w W
theorem NmAt.push {w W V : World} {cs : Cl} {i : Nat} {v : Value} {x : ByteArray × Int} (h : NmAt w cs i v W) (hx : cs[i]? = some x) (hi : i ≤ 8) (hb : Below W.heap.size W V) :
    ∃ v' X, Hid (∀ ty, (Builtin.append_ #[27, 27] ty #[v, .slice (some ⟨V.heap.size, 0, none⟩) 1 1]).run Try.prog (V.alloc (.cells #[.string x.1] 9)) = .ok v' X) ∧ Hid (NmAt w cs (i + 1) v' X) := by
  have ho := ownsRow_below h.1 hb
  have hB : w.heap.size ≤ V.heap.size := Nat.le_trans h.2.size hb.size
  obtain ⟨v', X, hr, o, g, _⟩ := push_row (P := Try.prog) (t := 27) Try.underlying27 info_str rfl (by omega) ho hB [.string x.1] rfl (by intro u hu; simp at hu; subst hu; rfl) (by omega) (by omega)
  refine ⟨v', X, Lib.hid hr, Lib.hid ⟨?_, (h.2.trans (hb.mono h.2.size)).trans (below_grown g hB (ownsRow_ge ho))⟩⟩
  rw [List.take_add_one, hx, Option.toList_some, List.map_append, List.map_cons, List.map_nil, strs_snoc]
  exact o
set_option maxHeartbeats 1600000 in
theorem names_any {w : World} {p : Option Addr} {n k : Nat} {cs : Cl} (hr : Holds2 w (.slice p n k) (cs.map colC)) (hl : cs.length = n) (hn : n ≤ 8) (tn : ByteArray) :
    Calls Try.prog 34 #[.agg #[.string tn, .slice p n k]] w fun e w' => (∃ a c, e = .returned (.slice a n c) ∧ Holds w' (.slice a n c) (strs (cs.map (·.1)))) ∧ Below w.heap.size w w' := by
  have hb1 := box_below w (.cells #[.string tn, .slice p n k] 26)
  have HS0 : Hid (NmAt w cs 0 (.slice none 0 0) (w.alloc (.cells #[.string tn, .slice p n k] 26))) := Lib.hid ⟨World.ownsRow_nil _ _ _ _, hb1⟩
  have HR := Lib.hid hr
  have HN := Lib.hid hn
  have HF := Lib.hid hl
  clear hr hn hl hb1
  go_enter Try.func34, Try.ntmps34
  go_wp2_with fail
  go_loopw [3, 9] (fun s3 s' W => ∃ (i : Nat) (v : Value), v = s3 ∧ s' = .int .i64 i ∧ i ≤ n ∧ Hid (NmAt w cs i v W)) (fun _ s' _ => n - (intOf s').toNat)
  case atStart => exact ⟨0, _, rfl, rfl, by omega, HS0⟩
  case round =>
    clear HS0
    obtain ⟨i, v, rfl, rfl, hi, hb⟩ := hrel
    by_cases hlt : i < n
    · obtain ⟨x, hx⟩ : ∃ x, cs[i]? = some x := ⟨_, List.getElem?_eq_getElem (by rw [HF.out]; exact hlt)⟩
      obtain ⟨ad, rfl, c0, c1⟩ := (HR.out.below hb.out.2).at_ (show (cs.map colC)[i]? = some (colC x) by rw [List.getElem?_map, hx]; rfl)
      simp only [colC] at c0 c1
      have hlt' : (i : Int) < (n : Int) := Int.ofNat_lt.2 hlt
      have b0 : (0 : Int) ≤ (i : Int) := Int.natCast_nonneg i
      have hw := i_next (p := i) (by have := HN.out; omega)
      have HLT := Lib.hid hlt
      obtain ⟨v', X, R, HNX⟩ := hb.out.push hx (by have := HN.out; omega) (box_below wr (.cells #[.string x.1, .int .i64 x.2] 49))
      obtain ⟨x, z⟩ := x
      simp only at c0 c1 R
      have hs : (wr.alloc (.cells #[.string x, .int .i64 z] 49)).heap.size = wr.heap.size + 1 := by simp
      rw [hs] at R
      clear hx hi hlt hb hs
      go_wp2_with (at_builtin; refine wpList_append_run rfl _ _ 27 rfl rfl rfl (R.out _) ?_)
      go_roundw
      case rel => exact ⟨i + 1, _, rfl, by go_num, by have := HLT.out; omega, HNX⟩
      case measure => have := HLT.out; simp [intOf]; omega
    · have hlt' : ¬ ((i : Int) < (n : Int)) := by omega
      have hin : i = n := by omega
      subst hin
      have ho := hb.out.1
      have e1 : (cs.take i).map (·.1) = cs.map (·.1) := by rw [List.take_of_length_le (by have := HF.out; omega)]
      rw [e1] at ho
      obtain ⟨a, c, rfl, _⟩ := ownsRow_form ho
      have HO := Lib.hid (Holds.of_row (xs := strs (cs.map (·.1))) (by rw [strs_len, List.length_map, HF.out]; exact ho))
      clear ho e1
      go_wp2_with fail
      go_ret
      exact ⟨⟨a, c, rfl, HO.out⟩, hb.out.2⟩
theorem lt_of_heap2 {w : World} {b : Nat} {o : Obj} (h : w.heap[b]? = some o) : b < w.heap.size := (Array.getElem?_eq_some_iff.1 h).1
/-- a table in a block of its own -/
structure TabBox (W : World) (b : Nat) (tn : ByteArray) (p : Option Addr) (n k : Nat) (cs : Cl) : Prop where
  box : W.heap[b]? = some (.cells #[.string tn, .slice p n k] 26 (0, 0))
  cols : Holds2 W (.slice p n k) (cs.map colC)
  len : cs.length = n
theorem TabBox.below {W V : World} {b : Nat} {tn : ByteArray} {p : Option Addr} {n k : Nat} {cs : Cl} (h : TabBox W b tn p n k cs) (hb : Below W.heap.size W V) : TabBox V b tn p n k cs :=
  ⟨(hb.block b (lt_of_heap2 h.box)).trans h.box, h.cols.below hb, h.len⟩
theorem TabBox.cells {W : World} {b : Nat} {tn : ByteArray} {p : Option Addr} {n k : Nat} {cs : Cl} (h : TabBox W b tn p n k cs) : W.cell? ⟨b, 0, none⟩ = some (.string tn) ∧ W.cell? ⟨b, 1, none⟩ = some (.slice p n k) := by
  rw [cell_of_row _ _ _ _ _ _ h.box, cell_of_row _ _ _ _ _ _ h.box]
  exact ⟨rfl, rfl⟩
theorem ent_misnamed : Ent 28 := ent_of Try.func28 (by decide) rfl
theorem ent_odd : Ent 31 := ent_of Try.func31 (by decide) rfl
theorem tab1_any {W : World} {b : Nat} {tn : ByteArray} {p : Option Addr} {n k : Nat} {cs : Cl} (h : TabBox W b tn p n k cs) (hn : n ≤ 9223372036854775807) :
    Calls Try.prog 26 #[.pointer (some ⟨b, 0, none⟩)] W fun e w' => e = .returned (.bool (!nmB tn || cs.any misB)) ∧ Below W.heap.size W w' := by
  have KN := name_any tn W
  unfold nmB
  have HB := Lib.hid h
  obtain ⟨c0, c1⟩ := h.cells
  have KC := fun (V : World) (hb : Below W.heap.size W V) => has_col (h.below hb).cols h.len hn ent_misnamed (C := #[]) (q := misB) (fun x _ V2 _ => misnamed_any x V2)
  generalize nameL tn.data.toList = NB at KN ⊢
  cases NB
  · have KC := Lib.hid KC
    clear h
    go_enter Try.func26, Try.ntmps26
    go_wp2_with fail
    refine KN.mono ?_
    rintro e w1 ⟨rfl, hb⟩
    go_wp2_with fail
    go_ret
    exact ⟨rfl, hb⟩
  · have KC := Lib.hid KC
    generalize cs.any misB = B at *
    clear h
    go_enter Try.func26, Try.ntmps26
    go_wp2_with fail
    refine KN.mono ?_
    rintro e w1 ⟨rfl, hb⟩
    have K2 := KC.out w1 hb
    obtain ⟨d0, d1⟩ := (HB.out.below hb).cells
    have hb := Lib.hid hb
    clear c0 c1 KC
    go_wp2_with fail
    refine K2.mono ?_
    rintro e w2 ⟨rfl, hb2⟩
    go_wp2_with fail
    go_ret
    exact ⟨rfl, hb.out.trans (hb2.mono hb.out.size)⟩
theorem tab2_any {W : World} {b : Nat} {tn : ByteArray} {p : Option Addr} {n k : Nat} {cs : Cl} (h : TabBox W b tn p n k cs) (hn : n ≤ 9223372036854775807) :
    Calls Try.prog 29 #[.pointer (some ⟨b, 0, none⟩)] W fun e w' => e = .returned (.bool (!fewN n 8 || cs.any oddB)) ∧ Below W.heap.size W w' := by
  have KN := few_any n 8 W
  obtain ⟨c0, c1⟩ := h.cells
  have KC := has_col h.cols h.len hn ent_odd (C := #[]) (q := oddB) (fun x _ V2 _ => odd_any x V2)
  generalize fewN n 8 = NB at KN ⊢
  generalize cs.any oddB = B at *
  clear h
  cases NB
  · clear KC
    go_enter Try.func29, Try.ntmps29
    go_wp2_with fail
    refine KN.mono ?_
    rintro e w1 ⟨rfl, rfl⟩
    go_wp2_with fail
    go_ret
    exact ⟨rfl, Below.refl _ _⟩
  · go_enter Try.func29, Try.ntmps29
    go_wp2_with fail
    refine KN.mono ?_
    rintro e w1 ⟨rfl, rfl⟩
    go_wp2_with fail
    refine KC.mono ?_
    rintro e w2 ⟨rfl, hb2⟩
    go_wp2_with fail
    go_ret
    exact ⟨rfl, hb2⟩
theorem tab3_any {W : World} {b : Nat} {tn : ByteArray} {p : Option Addr} {n k : Nat} {cs : Cl} (h : TabBox W b tn p n k cs) (hn : n ≤ 8) :
    Calls Try.prog 32 #[.pointer (some ⟨b, 0, none⟩)] W fun e w' => e = .returned (.bool (dupL (cs.map (·.1)))) ∧ Below W.heap.size W w' := by
  have KN := names_any h.cols h.len hn tn
  obtain ⟨c0, c1⟩ := h.cells
  have hl := h.len
  have KT := Lib.hid (fun (V : World) (a : Option Addr) (c : Nat) (ho : Holds V (.slice a n c) (strs (cs.map (·.1)))) => twice_str ho (by rw [List.length_map]; exact hl) (by omega))
  generalize dupL (cs.map (·.1)) = B at *
  clear h hl
  go_enter Try.func32, Try.ntmps32
  go_wp2_with fail
  refine KN.mono ?_
  rintro e w1 ⟨⟨a, c, rfl, ho⟩, hb⟩
  have K2 := KT.out w1 a c ho
  have hb := Lib.hid hb
  clear ho KT KN c0 c1
  go_wp2_with fail
  refine K2.mono ?_
  rintro e w2 ⟨rfl, hb2⟩
  go_wp2_with fail
  go_ret
  exact ⟨rfl, hb.out.trans (hb2.mono hb.out.size)⟩
theorem ent_tab1 : Ent 26 := ent_of Try.func26 (by decide) rfl
theorem ent_tab2 : Ent 29 := ent_of Try.func29 (by decide) rfl
theorem ent_tab3 : Ent 32 := ent_of Try.func32 (by decide) rfl
/-- the three questions of Table -/
def tabF (b : Nat) (tn : ByteArray) (n : Nat) (cs : Cl) : List Flt :=
  [⟨3, 26, #[.pointer (some ⟨b, 0, none⟩)], !nmB tn || cs.any misB⟩, ⟨2, 29, #[.pointer (some ⟨b, 0, none⟩)], !fewN n 8 || cs.any oddB⟩, ⟨5, 32, #[.pointer (some ⟨b, 0, none⟩)], dupL (cs.map (·.1))⟩]
theorem tabF_ans (b : Nat) (tn : ByteArray) (n : Nat) (cs : Cl) (hn : cs.length = n) : firstE (tabF b tn n cs) = tabE tn cs := by
  subst hn
  rfl
theorem tabF_ent (b : Nat) (tn : ByteArray) (n : Nat) (cs : Cl) : ∀ x ∈ tabF b tn n cs, Ent x.f := fun x hx => by
  simp only [tabF, List.mem_cons, List.not_mem_nil, or_false] at hx
  rcases hx with rfl | rfl | rfl
  · exact ent_tab1
  · exact ent_tab2
  · exact ent_tab3
set_option maxHeartbeats 1600000 in
theorem table_any {w : World} {p : Option Addr} {n k : Nat} {cs : Cl} (hr : Holds2 w (.slice p n k) (cs.map colC)) (hl : cs.length = n) (hn : n ≤ 9223372036854775807) (tn : ByteArray) :
    Calls Try.prog 13 #[.agg #[.string tn, .slice p n k]] w fun e w' => e = .returned (.int .i64 (tabE tn cs)) ∧ Below w.heap.size w w' := by
  obtain ⟨W1, hW1⟩ : ∃ W, w.alloc (.cells #[.string tn, .slice p n k] 26) = W := ⟨_, rfl⟩
  have hb1 : Below w.heap.size w W1 := by rw [← hW1]; exact box_below _ _
  have hs1 : W1.heap.size = w.heap.size + 1 := by rw [← hW1]; simp
  have hbx : W1.heap[w.heap.size]? = some (.cells #[.string tn, .slice p n k] 26 (0, 0)) := by rw [← hW1]; exact heap_alloc_new w _
  have hT : TabBox W1 w.heap.size tn p n k cs := ⟨hbx, hr.below hb1, hl⟩
  obtain ⟨A, hA⟩ : ∃ A : Array Value, #[.int .i64 3, .func (.func 26) #[] #[.pointer (some ⟨w.heap.size, 0, none⟩)], .int .i64 2, .func (.func 29) #[] #[.pointer (some ⟨w.heap.size, 0, none⟩)], .int .i64 5, .func (.func 32) #[] #[.pointer (some ⟨w.heap.size, 0, none⟩)]] = A := ⟨_, rfl⟩
  have hH := holds2_new W1 57 ((tabF w.heap.size tn n cs).map fltC) 3 rfl A (by rw [← hA]; rfl)
  have hb2 := box_below W1 (.cells A 57)
  have hT2 := hT.below hb2
  have KF := first_any hH rfl (by omega) (tabF_ent w.heap.size tn n cs) (fun i x hx hno V hV => by
    have hTV := hT2.below hV
    match i, hx with
    | 0, hx => cases hx; exact tab1_any hTV hn
    | 1, hx => cases hx; exact tab2_any hTV hn
    | 2, hx =>
      cases hx
      have h2 := hno 1 _ (by omega) rfl
      have h3 : fewN n 8 = true := by
        cases e : fewN n 8
        · simp only at h2
          rw [e] at h2; cases h2
        · rfl
      exact tab3_any hTV (of_decide_eq_true h3).2)
  rw [tabF_ans _ _ _ _ hl, hs1] at KF
  have HB := Lib.hid (hb1.trans (hb2.mono hb1.size))
  clear hH hb2 hT2 hT hbx hb1 hr
  subst hA hW1
  clear hs1
  go_enter Try.func13, Try.ntmps13
  go_wp2_with fail
  refine KF.mono ?_
  rintro e w1 ⟨rfl, hb⟩
  go_wp2_with fail
  go_ret
  exact ⟨rfl, HB.out.trans (hb.mono HB.out.size)⟩
end Go.Proofs.Ytjlpmhjnfgmmcaa
