/- Contracts of strings.Clone and of copied. Conditions: texts and columns as long as may be. -/
import Derived.Test.YtjlpmhjnfgmmcaaSchRight
import Derived.Test.YtjlpmhjnfgmmcaaShelf
set_option maxRecDepth 100000
namespace Go.Proofs.Ytjlpmhjnfgmmcaa
open Go.RowKit Go.Maps Go.Sort Go.Lib

theorem clone_any (s : ByteArray) (w : World) (hs : s.size ≤ 281474976710656) : Calls Try.prog 56 #[.string s] w fun e w' => e = .returned (.string s) ∧ Below w.heap.size w w' := by
  have KC := Try.stringslite_Clone s
  go_enter Try.func56, Try.ntmps56
  go_wp2_with fail
  refine (KC _ hs).mono ?_
  rintro e w1 ⟨rfl, hb⟩
  go_wp2_with fail
  go_ret
  exact ⟨rfl, hb⟩
theorem info_col2 : (Try.prog.info? 49).map (fun i => (i.zero, i.size, i.bytes)) = some (some (.agg #[.string ⟨#[]⟩, .int .i64 0]), 2, 24) := by kernel_rfl
theorem own_ne {w : World} {B : Nat} {e : TypeId} {k : Nat} {v : Value} {n : Nat} {xs : List Value} (h : w.ownsRow B e k v n xs) {b : Nat} {cs : Array Value} {t : TypeId} {fr : Nat × Nat} (hb : w.heap[b]? = some (.cells cs t fr)) (ht : t ≠ e) : ∀ g, v.ownBlock = some g → g ≠ b := fun g hg he => by
  subst he
  rcases h.2 with ⟨e1, _⟩ | ⟨g', cap, cur, e1, _, hh, _⟩
  · rw [e1] at hg; simp [Value.ownBlock] at hg
  · rw [e1] at hg
    have : g' = g := by simpa [Value.ownBlock] using hg
    subst this
    rw [hb] at hh
    simp at hh
    exact ht hh.2.1
/-- a copy under way: its block, its columns' row, the result's block -/
structure CpSt (w : World) (g : Nat) (tn : ByteArray) (cv : Value) (acc : Cl) (src : Value) (cs : Cl) (W : World) : Prop where
  below : Below w.heap.size w W
  gle : w.heap.size + 1 < g
  box : W.heap[g]? = some (.cells #[.string tn, cv] 26 (0, 0))
  row : W.ownsRow w.heap.size 49 2 cv acc.length (fl2 (acc.map colC))
  res : W.heap[w.heap.size + 1]? = some (.cells #[.string ⟨#[]⟩, .slice none 0 0] 26 (0, 0))
  src : Holds2 W src (cs.map colC)
theorem CpSt.next {w W V : World} {g : Nat} {tn : ByteArray} {cv src : Value} {acc cs : Cl} (h : CpSt w g tn cv acc src cs W) (hb : Below W.heap.size W V) : CpSt w g tn cv acc src cs V :=
  ⟨h.below.trans (hb.mono h.below.size), h.gle, (hb.block g (lt_of_heap2 h.box)).trans h.box, ownsRow_below h.row hb, (hb.block _ (lt_of_heap2 h.res)).trans h.res, h.src.below hb⟩
theorem CpSt.drewN {w W : World} {g : Nat} {tn : ByteArray} {cv src : Value} {acc cs : Cl} (h : CpSt w g tn cv acc src cs W) (n : Nat) : CpSt w g tn cv acc src cs (W.drewN n) :=
  ⟨bel_dN h.below n, h.gle, h.box, h.row, h.res, h.src⟩
theorem fl2_more (l : List (Value × Value)) (x : Value × Value) : fl2 (l ++ [x]) = fl2 l ++ [x.1, x.2] := by simp [fl2]
/-- a column more -/
theorem CpSt.push {w W : World} {g : Nat} {tn : ByteArray} {cv src : Value} {acc cs : Cl} (h : CpSt w g tn cv acc src cs W) (hs : ∃ a n k, src = .slice (some a) n k ∧ a.block < w.heap.size) (x : ByteArray × Int) (hl : (acc.length + 1) * 24 ≤ 140737488355328) :
    ∃ a c X, Hid (∀ ty, (Builtin.append_ #[24, 24] ty #[cv, .slice (some ⟨W.heap.size, 0, none⟩) 1 1]).run Try.prog (W.alloc (.cells #[.string x.1, .int .i64 x.2] 49)) = .ok (.slice a (acc.length + 1) c) X) ∧
      Hid (X.heap[g]? = some (.cells #[.string tn, cv] 26 (0, 0))) ∧ Hid (CpSt w g tn (.slice a (acc.length + 1) c) (acc ++ [x]) src cs (X.setCell ⟨g, 1, none⟩ (.slice a (acc.length + 1) c))) ∧ Hid (W.grownBy X cv.ownBlock) := by
  have hB : w.heap.size ≤ W.heap.size := h.below.size
  obtain ⟨v', X, hr, ho, hg, _⟩ := push_row (P := Try.prog) (t := 24) Try.underlying24 info_col2 rfl (by omega) h.row hB [.string x.1, .int .i64 x.2] rfl (fun u hu => by simp at hu; rcases hu with rfl | rfl <;> rfl) hl (by omega)
  obtain ⟨a, c, rfl, _⟩ := ownsRow_form ho
  have hnb := own_ne h.row h.box (by decide)
  have hnr := own_ne h.row h.res (by decide)
  have bX : X.heap[g]? = W.heap[g]? := hg.block g (lt_of_heap2 h.box) (fun e => hnb g e.symm rfl)
  have rX : X.heap[w.heap.size + 1]? = W.heap[w.heap.size + 1]? := hg.block _ (lt_of_heap2 h.res) (fun e => hnr _ e.symm rfl)
  have ho' : X.ownsRow w.heap.size 49 2 (.slice a (acc.length + 1) c) (acc ++ [x]).length (fl2 ((acc ++ [x]).map colC)) := by
    rw [List.length_append, List.map_append, List.map_cons, List.map_nil, fl2_more]
    exact ho
  have hnb' := own_ne ho' (bX.trans h.box) (by decide)
  have hX : Below w.heap.size w X := h.below.trans (below_grown hg hB (fun k hk => (h.row.lt k hk).1))
  have hgl := h.gle
  have hXs : Below w.heap.size w (X.setCell ⟨g, 1, none⟩ (.slice a (acc.length + 1) c)) := hX.setCell (p := ⟨g, 1, none⟩) (by show w.heap.size ≤ g; omega) _
  obtain ⟨ad, sn, sk, rfl, hsb⟩ := hs
  refine ⟨a, c, X, Lib.hid hr, Lib.hid (bX.trans h.box), Lib.hid ⟨hXs, hgl, heap_set (bX.trans h.box) _, ?_, ?_, ?_⟩, Lib.hid hg⟩
  · exact ownsRow_of_block ho' fun k hk => Below.heap_setCell _ _ _ k (hnb' k hk)
  · exact (Below.heap_setCell _ _ _ _ (by show w.heap.size + 1 ≠ g; omega)).trans (rX.trans h.res)
  · obtain ⟨a', c', e1, h2, h3⟩ := h.src
    refine ⟨a', c', e1, h2, ?_⟩
    rcases h3 with h3 | ⟨ad', h3, h4⟩
    · exact .inl h3
    · refine .inr ⟨ad', h3, fun i y hy => ?_⟩
      have e2 : ad' = ad := by
        have e3 : some ad = a' := by cases e1; rfl
        rw [h3] at e3
        exact (Option.some.inj e3).symm
      subst e2
      obtain ⟨q1, q2⟩ := h4 i y hy
      have hbw : ∀ j, (W.cell? ⟨(ad'.add (i * 2)).block, j, none⟩ = w.cell? ⟨(ad'.add (i * 2)).block, j, none⟩) := fun j => h.below.cell (p := ⟨(ad'.add (i * 2)).block, j, none⟩) (by show (ad'.add (i * 2)).block < _; rw [Addr.add_block]; exact hsb)
      refine ⟨?_, ?_⟩
      · rw [hXs.cell (p := ad'.add (i * 2)) (by rw [Addr.add_block]; exact hsb), ← h.below.cell (p := ad'.add (i * 2)) (by rw [Addr.add_block]; exact hsb)]
        exact q1
      · rw [hXs.cell (p := ⟨(ad'.add (i * 2)).block, (ad'.add (i * 2)).off + 1, none⟩) (by show (ad'.add (i * 2)).block < _; rw [Addr.add_block]; exact hsb), ← hbw]
        exact q2
/-- the result's block, behind the last store -/
theorem CpSt.done {w W : World} {g : Nat} {tn : ByteArray} {cv src : Value} {acc cs : Cl} (h : CpSt w g tn cv acc src cs W) :
    (W.cell? ⟨g, 0, none⟩ = some (.string tn) ∧ W.cell? ⟨g, 1, none⟩ = some cv) ∧ (W.cell? ⟨w.heap.size + 1, 0, none⟩ = some (.string ⟨#[]⟩) ∧ W.cell? ⟨w.heap.size + 1, 1, none⟩ = some (.slice none 0 0) ∧ W.frozen? ⟨w.heap.size + 1, 0, none⟩ = false ∧ W.frozen? ⟨w.heap.size + 1, 1, none⟩ = false) ∧
    (((W.setCell ⟨w.heap.size + 1, 0, none⟩ (.string tn)).setCell ⟨w.heap.size + 1, 1, none⟩ cv).cell? ⟨w.heap.size + 1, 0, none⟩ = some (.string tn) ∧ ((W.setCell ⟨w.heap.size + 1, 0, none⟩ (.string tn)).setCell ⟨w.heap.size + 1, 1, none⟩ cv).cell? ⟨w.heap.size + 1, 1, none⟩ = some cv) ∧
    Below w.heap.size w ((W.setCell ⟨w.heap.size + 1, 0, none⟩ (.string tn)).setCell ⟨w.heap.size + 1, 1, none⟩ cv) ∧
    ((W.setCell ⟨w.heap.size + 1, 0, none⟩ (.string tn)).setCell ⟨w.heap.size + 1, 1, none⟩ cv).ownsRow w.heap.size 49 2 cv acc.length (fl2 (acc.map colC)) := by
  have h2 := heap_set (j := 1) (heap_set (j := 0) h.res (.string tn)) cv
  refine ⟨⟨by rw [cell_of_row _ _ _ _ _ _ h.box]; rfl, by rw [cell_of_row _ _ _ _ _ _ h.box]; rfl⟩, ⟨by rw [cell_of_row _ _ _ _ _ _ h.res]; rfl, by rw [cell_of_row _ _ _ _ _ _ h.res]; rfl, free_of_row h.res 0, free_of_row h.res 1⟩, ⟨by rw [cell_of_row _ _ _ _ _ _ h2]; rfl, by rw [cell_of_row _ _ _ _ _ _ h2]; rfl⟩, ?_, ?_⟩
  · exact (h.below.setCell (p := ⟨w.heap.size + 1, 0, none⟩) (by show w.heap.size ≤ w.heap.size + 1; omega) _).setCell (p := ⟨w.heap.size + 1, 1, none⟩) (by show w.heap.size ≤ w.heap.size + 1; omega) _
  · exact ownsRow_of_block h.row fun k hk => by
      have hne := own_ne h.row h.res (by decide) k hk
      rw [Below.heap_setCell _ _ _ k hne, Below.heap_setCell _ _ _ k hne]
theorem boxed2 {w V : World} {o o2 : Obj} (hb : Below ((w.alloc o).alloc o2).heap.size ((w.alloc o).alloc o2) V) : V.heap[w.heap.size + 1]? = some o2 := by
  have hs : (w.alloc o).heap.size = w.heap.size + 1 := by simp
  rw [hb.block _ (by simp), ← hs]
  exact heap_alloc_new _ _
set_option maxHeartbeats 6400000 in
theorem copied_any {w : World} {p : Option Addr} {n k : Nat} {cs : Cl} (hr : Holds2 w (.slice p n k) (cs.map colC)) (hl : cs.length = n) (hn : n * 24 ≤ 140737488355328) (tn : ByteArray) (htn : tn.size ≤ 281474976710656) (hcs : ∀ c ∈ cs, c.1.size ≤ 281474976710656) :
    Calls Try.prog 49 #[.agg #[.string tn, .slice p n k]] w fun e w' => (∃ a c, e = .returned (.agg #[.string tn, .slice a n c]) ∧ w'.ownsRow w.heap.size 49 2 (.slice a n c) n (fl2 (cs.map colC))) ∧ Below w.heap.size w w' := by
  have hb1 := box_below w (.cells #[.string tn, .slice p n k] 26)
  have hb2 := box_below (w.alloc (.cells #[.string tn, .slice p n k] 26)) (.cells #[.string ⟨#[]⟩, .slice none 0 0] 26)
  have HB := Lib.hid (hb1.trans (hb2.mono hb1.size))
  have hx := (hb2.block w.heap.size (by simp)).trans (heap_alloc_new w (.cells #[.string tn, .slice p n k] 26))
  have HX := Lib.hid hx
  have HH := Lib.hid ((hr.below hb1).below hb2)
  have KC := clone_any tn ((w.alloc (.cells #[.string tn, .slice p n k] 26)).alloc (.cells #[.string ⟨#[]⟩, .slice none 0 0] 26)) htn
  have KX := Lib.hid (fun (x : ByteArray × Int) (hx : x ∈ cs) (V : World) => clone_any x.1 V (hcs x hx))
  have HSZ : Hid (w.heap.size < ((w.alloc (.cells #[.string tn, .slice p n k] 26)).alloc (.cells #[.string ⟨#[]⟩, .slice none 0 0] 26)).heap.size ∧ w.heap.size + 1 < ((w.alloc (.cells #[.string tn, .slice p n k] 26)).alloc (.cells #[.string ⟨#[]⟩, .slice none 0 0] 26)).heap.size) := Lib.hid ⟨by simp; omega, by simp⟩
  have HP : Hid (∀ (i : Nat) (x : ByteArray × Int), cs[i]? = some x → ∃ a : Addr, p = some a ∧ a.block < w.heap.size) := Lib.hid (fun i x hx => by
    obtain ⟨ad, e1, c0, _⟩ := hr.at_ (show (cs.map colC)[i]? = some (colC x) by rw [List.getElem?_map, hx]; rfl)
    have := World.block_lt_of_cell? w _ c0
    rw [Addr.add_block] at this
    exact ⟨ad, e1, this⟩)
  have HF := Lib.hid hl
  have HN := Lib.hid hn
  clear hr hl hn htn hcs hb1 hb2 hx
  go_enter Try.func49, Try.ntmps49
  go_wp2_with fail
  refine KC.mono ?_
  rintro e w1 ⟨rfl, hb⟩
  have hx1 := (hb.block _ HSZ.out.1).trans HX.out
  have hb4 := box_below w1 (.cells #[.string tn, .slice none 0 0] 26)
  obtain ⟨g, hg⟩ : ∃ g, w1.heap.size = g := ⟨_, rfl⟩
  have HC0 : Hid (CpSt w g tn (.slice none 0 0) [] (.slice p n k) cs (w1.alloc (.cells #[.string tn, .slice none 0 0] 26))) := Lib.hid (by
    have hbw := HB.out.trans (hb.mono HB.out.size)
    refine ⟨hbw.trans (hb4.mono hbw.size), ?_, ?_, World.ownsRow_nil _ _ _ _, ?_, (HH.out.below hb).below hb4⟩
    · have := HSZ.out.2; have := hb.size; omega
    · rw [← hg]; exact heap_alloc_new w1 _
    · exact (hb4.block _ (by have := HSZ.out.2; have := hb.size; omega)).trans (boxed2 hb))
  have e1 : (w1.alloc (.cells #[.string tn, .slice none 0 0] 26)).cell? ⟨w.heap.size, 1, none⟩ = some (.slice p n k) := by
    rw [cell_of_row _ _ _ _ _ _ ((hb4.block _ (lt_of_heap2 hx1)).trans hx1)]; rfl
  clear hb KC HB HX HH hb4 hx1
  go_wp2_with fail
  clear e1
  (try rw [hg])
  go_loopw [13] (fun s' W => ∃ (i : Nat) (a : Option Addr) (c : Nat), s' = .int .i64 i ∧ i ≤ n ∧ Hid (CpSt w g tn (.slice a i c) (cs.take i) (.slice p n k) cs W)) (fun s' _ => n - (RowKit.intOf s').toNat)
  case atStart => exact ⟨0, none, 0, rfl, by omega, HC0⟩
  case round =>
    clear HC0 hg
    obtain ⟨i, a, c, rfl, hi, hb⟩ := hrel
    by_cases hlt : i < n
    · obtain ⟨x, hx⟩ : ∃ x, cs[i]? = some x := ⟨_, List.getElem?_eq_getElem (by rw [HF.out]; exact hlt)⟩
      obtain ⟨ad, rfl, c0, c1⟩ := hb.out.src.at_ (show (cs.map colC)[i]? = some (colC x) by rw [List.getElem?_map, hx]; rfl)
      have KX1 := KX.out x (List.mem_of_getElem? hx)
      obtain ⟨ad', e', hpb⟩ := HP.out i x hx
      cases e'
      have hti : (cs.take i).length = i := by rw [List.length_take]; have := HF.out; omega
      have htx : cs.take i ++ [x] = cs.take (i + 1) := by rw [List.take_add_one, hx]; rfl
      have HPU := Lib.hid (fun (V : World) (h : CpSt w g tn (.slice a i c) (cs.take i) (.slice (some ad) n k) cs V) => h.push ⟨ad, n, k, rfl, hpb⟩ x (by rw [hti]; have := HN.out; omega))
      rw [hti, htx] at HPU
      obtain ⟨x, z⟩ := x
      simp only [colC] at c0 c1
      simp only at KX1 HPU
      have hlt' : (i : Int) < (n : Int) := Int.ofNat_lt.2 hlt
      have b0 : (0 : Int) ≤ (i : Int) := Int.natCast_nonneg i
      have hw := i_next (p := i) (by have := HN.out; omega)
      have HLT := Lib.hid hlt
      have hbx := box_below wr (.cells #[.string x, .int .i64 z] 49)
      have hS := hb.out.next hbx
      have hbb := heap_alloc_new wr (.cells #[.string x, .int .i64 z] 49)
      have HBB : Hid (wr.heap.size < (wr.alloc (.cells #[.string x, .int .i64 z] 49)).heap.size) := Lib.hid (by simp)
      obtain ⟨cb, hcb⟩ : ∃ cb, wr.heap.size = cb := ⟨_, rfl⟩
      obtain ⟨W0, hW0⟩ : ∃ W, wr.alloc (.cells #[.string x, .int .i64 z] 49) = W := ⟨_, rfl⟩
      have S0 : Hid (CpSt w g tn (.slice a i c) (cs.take i) (.slice (some ad) n k) cs W0 ∧ W0.heap[cb]? = some (.cells #[.string x, .int .i64 z] 49 (0, 0))) := Lib.hid ⟨by rw [← hW0]; exact hS, by rw [← hW0, ← hcb]; exact hbb⟩
      have SC := Lib.hid (fun (V : World) (h : CpSt w g tn (.slice a i c) (cs.take i) (.slice (some ad) n k) cs V ∧ V.heap[cb]? = some (.cells #[.string x, .int .i64 z] 49 (0, 0))) =>
        (⟨by rw [cell_of_row _ _ _ _ _ _ h.1.box]; rfl, by rw [cell_of_row _ _ _ _ _ _ h.2]; rfl, by rw [cell_of_row _ _ _ _ _ _ h.2]; rfl⟩ : V.cell? ⟨g, 1, none⟩ = some (.slice a i c) ∧ V.cell? ⟨cb, 0, none⟩ = some (.string x) ∧ V.cell? ⟨cb, 1, none⟩ = some (.int .i64 z)))
      have HNE : Hid (∀ gg, (Value.slice a i c).ownBlock = some gg → gg ≠ cb) := Lib.hid (fun gg hgg => by have := (hb.out.row.lt gg hgg).2; omega)
      have SN := Lib.hid (fun (V V2 : World) (hbV : Below V.heap.size V V2) (h : CpSt w g tn (.slice a i c) (cs.take i) (.slice (some ad) n k) cs V ∧ V.heap[cb]? = some (.cells #[.string x, .int .i64 z] 49 (0, 0))) =>
        (⟨h.1.next hbV, (hbV.block cb (lt_of_heap2 h.2)).trans h.2⟩ : CpSt w g tn (.slice a i c) (cs.take i) (.slice (some ad) n k) cs V2 ∧ V2.heap[cb]? = some (.cells #[.string x, .int .i64 z] 49 (0, 0))))
      clear hx hi hlt hb hbx hS hbb hti htx hpb
      go_wp2_with fail
      (try rw [hW0])
      (try rw [hcb])
      clear hW0 hcb c0 c1 HBB
      have S0 := Lib.hid (And.intro (S0.out.1.drewN 1) (show (W0.drewN 1).heap[cb]? = some (.cells #[.string x, .int .i64 z] 49 (0, 0)) from S0.out.2))
      refine wp_region_mix (fun V => V.cell? ⟨g, 1, none⟩ = some (.slice a i c) ∧ V.cell? ⟨cb, 0, none⟩ = some (.string x) ∧ V.cell? ⟨cb, 1, none⟩ = some (.int .i64 z)) 11 [(true, 0), (true, 1), (true, 2), (true, 3), (true, 5), (true, 6), (false, 4), (true, 7), (false, 8), (false, 9), (true, 10), (false, 11)] (by kernel_rfl) (by decide +kernel) rfl (by decide +kernel) (SC.out _ S0.out) ?_
      iterate 6
        refine wpMix_take (v := ?_) rfl rfl ?_ ?_
        rotate_left
        · (intro W hW; (try dsimp only at hW); go_simp) <;> with_reducible rfl
        simp only [Act.put, List.setIfInBounds_toArray, List.set_cons_zero, List.set_cons_succ]
      refine wpMix_run rfl ?_
      intro K hK
      go_wp2_with fail
      refine (KX1 _).mono ?_
      rintro e w2 ⟨rfl, hb2⟩
      have S2 := Lib.hid (SN.out _ _ hb2 S0.out)
      clear hb2 S0
      go_wp2_with fail
      refine hK.out _ _ (fun _ => SC.out _ S2.out) ?_
      clear hK K
      iterate 1
        refine wpMix_take (v := ?_) rfl rfl ?_ ?_
        rotate_left
        · (intro W hW; (try dsimp only at hW); go_simp) <;> with_reducible rfl
        simp only [Act.put, List.setIfInBounds_toArray, List.set_cons_zero, List.set_cons_succ]
      refine wpMix_run rfl ?_
      intro K hK
      go_wp2_with fail
      refine hK.out _ _ (fun _ => SC.out _ (SN.out _ _ (box_below w2 _) S2.out)) ?_
      clear hK K
      obtain ⟨a9, c9, X, R9, B9, S9, G9⟩ := HPU.out w2 S2.out.1
      have S3 : X.cell? ⟨g, 1, none⟩ = some (.slice a i c) ∧ X.cell? ⟨cb, 0, none⟩ = some (.string x) ∧ X.cell? ⟨cb, 1, none⟩ = some (.int .i64 z) := by
        have hxc := (G9.out.block cb (lt_of_heap2 S2.out.2) (fun e => HNE.out cb e.symm rfl)).trans S2.out.2
        exact ⟨by rw [cell_of_row _ _ _ _ _ _ B9.out]; rfl, by rw [cell_of_row _ _ _ _ _ _ hxc]; rfl, by rw [cell_of_row _ _ _ _ _ _ hxc]; rfl⟩
      refine wpMix_run rfl ?_
      intro K hK
      refine wpList_append_run rfl (.tmp 18) (.tmp 25) 24 rfl rfl rfl (R9.out _) ?_
      go_wp2_with fail
      refine hK.out _ _ (fun _ => S3) ?_
      clear hK K
      iterate 1
        refine wpMix_take (v := ?_) rfl rfl ?_ ?_
        rotate_left
        · (intro W hW; (try dsimp only at hW); go_simp) <;> with_reducible rfl
        simp only [Act.put, List.setIfInBounds_toArray, List.set_cons_zero, List.set_cons_succ]
      have f1 := free_of_row B9.out 1
      have c9' := S3.1
      refine wpMix_run rfl ?_
      intro K hK
      go_wp2_with fail
      refine hK.out _ _ (fun h => absurd rfl h) ?_
      clear hK K
      refine wpMix_nil ?_
      clear S0 S2 S3 f1 c9' HPU SN SC R9 B9 G9
      go_wp2_with fail
      go_roundw
      case rel => exact ⟨i + 1, a9, c9, by go_num, by have := HLT.out; omega, S9⟩
      case measure => have := HLT.out; simp [RowKit.intOf]; omega
    have hin : i = n := by omega
    subst hin
    have hlt' : ¬ ((i : Int) < (i : Int)) := by omega
    have htk : cs.take i = cs := List.take_of_length_le (by have := HF.out; omega)
    have hD := hb.out.done
    rw [htk, HF.out] at hD
    obtain ⟨⟨c0, c1⟩, ⟨r0, r1, f0, f1⟩, ⟨x0, x1⟩, hbw, how⟩ := hD
    have HO := Lib.hid (And.intro hbw how)
    clear hlt hi htk hbw how hb
    go_wp2_with fail
    refine bodyPost_ret (v := .agg #[.string tn, .slice a i c]) ?_ rfl ⟨⟨a, c, rfl, HO.out.2⟩, HO.out.1⟩
    simp [results, Try.results49, go_sem, x0, x1]
end Go.Proofs.Ytjlpmhjnfgmmcaa
