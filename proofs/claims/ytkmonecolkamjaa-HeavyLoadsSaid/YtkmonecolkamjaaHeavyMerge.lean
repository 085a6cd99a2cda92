/- Contract of heavy's Merge of two sketches of one size. Conditions: sketches that were made, with room. -/
import Derived.Test.YtkmonecolkamjaaHeavyTop
set_option maxRecDepth 100000
namespace Go.Proofs.Ytkmonecolkamjaa
open Go.RowKit Go.Maps Go.Sort Go.Shelf

def addP (a : CL) (p : Int × Int) : CL := putL p.1 (cnt a p.1 + p.2) a
def addL (L M : CL) : CL := M.foldl addP L
theorem addL_snoc (L M : CL) (p : Int × Int) : addL L (M ++ [p]) = addP (addL L M) p := by simp [addL]
theorem asc_addL {L : CL} (h : Asc L) : ∀ M : CL, Asc (addL L M)
  | [] => h
  | p :: r => asc_addL (L := addP L p) (asc_putL h _ _) r
theorem addP_pos {a : CL} (h : ∀ q ∈ a, 1 ≤ q.2) {p : Int × Int} (hp : 1 ≤ p.2) : ∀ q ∈ addP a p, 1 ≤ q.2 := fun q hq => by
  rcases putL_sub hq with rfl | hq
  · have := cnt_nonneg h p.1
    show 1 ≤ cnt a p.1 + p.2; omega
  · exact h q hq
theorem addL_pos {L : CL} (h : ∀ q ∈ L, 1 ≤ q.2) : ∀ M : CL, (∀ q ∈ M, 1 ≤ q.2) → ∀ q ∈ addL L M, 1 ≤ q.2
  | [], _ => h
  | p :: r, hm => addL_pos (L := addP L p) (addP_pos h (hm p (List.mem_cons_self ..))) r fun q hq => hm q (List.mem_cons_of_mem _ hq)
theorem addL_total {L : CL} (h : Asc L) : ∀ M : CL, total (addL L M) = total L + total M
  | [] => by simp [addL, total]
  | p :: r => by
    have e := addL_total (L := addP L p) (asc_putL h _ _) r
    show total (addL (addP L p) r) = _
    rw [e, total_cons]
    unfold addP
    rw [total_putL h]; omega
theorem addL_len {L : CL} : ∀ M : CL, (addL L M).length ≤ L.length + M.length
  | [] => Nat.le_refl _
  | p :: r => by
    have e := addL_len (L := addP L p) r
    have := putL_len L p.1 (cnt L p.1 + p.2)
    show (addL (addP L p) r).length ≤ _
    unfold addP at e ⊢
    rw [List.length_cons]; omega
theorem addL_cnt {L : CL} (h : Asc L) (x : Int) : ∀ M : CL, Asc M → cnt (addL L M) x = cnt L x + cnt M x
  | [], _ => by simp [addL, cnt]
  | p :: r, hM => by
    have e := addL_cnt (L := addP L p) (asc_putL h _ _) x r (asc_tail hM)
    show cnt (addL (addP L p) r) x = _
    rw [e]
    unfold addP
    rw [cnt_putL h]
    show _ = _ + if p.1 = x then p.2 else cnt r x
    by_cases g : p.1 = x
    · rw [if_pos g, if_pos g.symm, g, cnt_none (L := r) (id := x)]
      · omega
      · intro q hq; have := asc_head hM q hq; omega
    · rw [if_neg g, if_neg (fun e => g e.symm)]
theorem ranked_le {A R : CL} (h : Ranked A R) {m : Nat} {q : Int × Int} (hq : R[m]? = some q) : ∀ x ∈ R.drop m, x.2 ≤ q.2 := by
  obtain ⟨hm, e⟩ := List.getElem?_eq_some_iff.1 hq
  intro x hx
  obtain ⟨k, hk, rfl⟩ := List.mem_iff_getElem.1 hx
  rw [List.getElem_drop]
  rcases Nat.eq_zero_or_pos k with rfl | hk0
  · simp only [Nat.add_zero]; rw [e]; exact Int.le_refl _
  · have := List.pairwise_iff_getElem.1 h.order m (m + k) hm (by simp at hk; omega) (by omega)
    rw [e, ltTop_no] at this
    omega
theorem less_len_eq (c : Int) (A : CL) : (less c A).length = (A.filter fun p => decide (c < p.2)).length := by
  induction A with
  | nil => rfl
  | cons p r ih =>
    rw [less_cons]
    by_cases h : p.2 - c ≤ 0
    · rw [if_pos h, List.filter_cons_of_neg (by simp; omega), ih]
    · rw [if_neg h, List.filter_cons_of_pos (by simp; omega), List.length_cons, List.length_cons, ih]
theorem less_few {A R : CL} (h : Ranked A R) {m : Nat} {q : Int × Int} (hq : R[m]? = some q) : (less q.2 A).length ≤ m := by
  rw [less_len_eq, ← (h.perm.filter _).length_eq]
  rw [← List.take_append_drop m R, List.filter_append, List.length_append]
  have e : (R.drop m).filter (fun p => decide (q.2 < p.2)) = [] := List.filter_eq_nil_iff.2 fun x hx => by
    have := ranked_le h hq x hx
    simp; omega
  rw [e]
  exact Nat.le_trans (List.length_filter_le _ _) (by simp; omega)

/-- what a merge leaves -/
def MergeP (V U V' : HV) : Prop := V'.m = V.m ∧ V'.n = V.n + U.n ∧
  (((addL V.L U.L).length ≤ V.m ∧ V'.L = addL V.L U.L) ∨ (V.m < (addL V.L U.L).length ∧ ∃ R q, Ranked (addL V.L U.L) R ∧ R[V.m]? = some q ∧ V'.L = less q.2 (addL V.L U.L)))
theorem MergeP.good {V U V' : HV} (h : MergeP V U V') (hV : V.Good) (hU : U.Good) (hA : Asc V.L) (hn : V.n + U.n ≤ 1125899906842624) : V'.Good := by
  obtain ⟨h1, h2, h3⟩ := h
  have pos := addL_pos hV.pos U.L hU.pos
  have tot := addL_total hA U.L
  have s1 := hV.sum
  have s2 := hU.sum
  refine ⟨by rw [h1]; exact hV.m1, by rw [h1]; exact hV.m64, by rw [h2]; exact hn, ?_, ?_, ?_⟩
  · rw [h1]
    rcases h3 with ⟨a, b⟩ | ⟨_, R, q, a, b, c⟩
    · rw [b]; exact a
    · rw [c]; exact less_few a b
  · rcases h3 with ⟨a, b⟩ | ⟨_, R, q, a, b, c⟩
    · rw [b]; exact pos
    · rw [c]; exact less_pos
  · rw [h2]
    rcases h3 with ⟨a, b⟩ | ⟨_, R, q, a, b, c⟩
    · rw [b, tot]; omega
    · rw [c]
      have hq : 1 ≤ q.2 := pos q (a.perm.mem_iff.1 (List.mem_of_getElem? b))
      have := total_less (k := q.2) (by omega) pos
      omega

/-- how the loop of Merge stands -/
structure AddAt (w1 wr : World) (p m n b g : Nat) (L M : CL) (j : Nat) : Prop where
  head : wr.heap[p]? = some (.cells #[.int .i64 m, .int .i64 n, .map (some b)] 57 (0, 0))
  row : RowP wr g M
  map : MapAt wr b (addL L (M.take j))
  own : w1.grownBy wr (some b)
theorem add_step {w1 wr : World} {p m n b g j : Nat} {L M : CL} (h : AddAt w1 wr p m n b g L M j) (hA : Asc L) (hpb : p ≠ b) (hgb : g ≠ b) (h1 : ∀ q ∈ L, 1 ≤ q.2) (h2 : ∀ q ∈ M, 1 ≤ q.2) (ht : total L + total M ≤ 4503599627370496) (hl : L.length + M.length ≤ 100000) (hi : ∀ q ∈ M, InI q.1) {q : Int × Int} (hq : M[j]? = some q) (o : Obj) :
    ∃ C, 0 ≤ C ∧ C + q.2 ≤ 4503599627370496 ∧ (∀ x, (Instr.lookup 55 (.map (some b)) (.int .i64 q.1) false).run Try.prog ((wr.alloc o).drewN x) = .ok (.int .i64 C) ((wr.alloc o).drewN x)) ∧
    ∃ w3, (Instr.mapUpdate 55 (.map (some b)) (.int .i64 q.1) (.int .i64 (C + q.2))).run Try.prog (wr.alloc o).drew = .ok () w3 ∧ AddAt w1 w3 p m n b g L M (j + 1) := by
  obtain ⟨hj, e0⟩ := List.getElem?_eq_some_iff.1 hq
  have hb := h.map.lt
  have e : ∀ r, r < wr.heap.size → (wr.alloc o).heap[r]? = wr.heap[r]? := fun r hr => heap_alloc_old wr o hr
  have hM : ∀ x, MapAt ((wr.alloc o).drewN x) b (addL L (M.take j)) := fun x => h.map.of_block (e b hb)
  have hqm : q ∈ M := List.mem_of_getElem? hq
  have hqi := hi q hqm
  have pos := addL_pos h1 (M.take j) fun x hx => h2 x (List.mem_of_mem_take hx)
  have t0 := addL_total hA (M.take j)
  have et : M.take (j + 1) = M.take j ++ [q] := by rw [List.take_succ_eq_append_getElem hj, e0]
  have t1 : total M = total (M.take j) + q.2 + total (M.drop (j + 1)) := by
    conv => lhs; rw [← List.take_append_drop (j + 1) M]
    rw [total_append, et, total_append]
    simp [total]
  have t2 := total_nonneg (L := M.drop (j + 1)) fun x hx => h2 x (List.mem_of_mem_drop hx)
  have c0 := cnt_nonneg pos q.1
  have c1 : cnt (addL L (M.take j)) q.1 ≤ total (addL L (M.take j)) := by
    by_cases z : cnt (addL L (M.take j)) q.1 = 0
    · have := total_nonneg pos; omega
    · exact le_total pos _ (mem_of_cnt z)
  have hq1 := h2 q hqm
  have hlen := addL_len (L := L) (M.take j)
  have hlen2 : (M.take j).length ≤ M.length := by simp; omega
  refine ⟨cnt (addL L (M.take j)) q.1, c0, by omega, fun x => (hM x).lookup hqi, ?_⟩
  obtain ⟨w3, k1, k2, k3⟩ := (hM 1).update hqi (c := cnt (addL L (M.take j)) q.1 + q.2) (by unfold InI; omega) (by unfold maxLen; omega)
  have ea : putL q.1 (cnt (addL L (M.take j)) q.1 + q.2) (addL L (M.take j)) = addL L (M.take (j + 1)) := by rw [et, addL_snoc]; rfl
  rw [ea] at k2
  refine ⟨w3, k1, ?_, ?_, k2, ?_⟩
  · rw [k3.block p (by simp [World.drewN]; have := lt_of_heap h.head; omega) (by simp [hpb])]
    exact (e p (lt_of_heap h.head)).trans h.head
  · refine h.row.of_block ?_ ?_
    · rw [k3.block g (by simp [World.drewN]; have := h.row.2; omega) (by simp [hgb])]
      exact e g h.row.2
    · exact Nat.le_trans (by simp [World.drewN]) k3.size
  · exact (h.own.andThen (World.grownBy_alloc wr o none) (fun j hj => by cases hj)).andThen (⟨k3.os, k3.tape, k3.output, k3.size, k3.block⟩ : (wr.alloc o).grownBy w3 (some b)) (fun j hj => .inr hj)

set_option maxHeartbeats 16000000 in
theorem merge_two {T : Tags} {i j : Nat} {w : World} {p q : Nat} {V U : HV} (h : Hk p V T i w) (h' : Hk q U T j w) (hij : i ≠ j) (hm : U.m = V.m) (hn : V.n + U.n ≤ 1125899906842624) :
    Calls Try.prog 14 #[.pointer (some ⟨p, 0, none⟩), .pointer (some ⟨q, 0, none⟩)] w fun e w' => e = .returned (.int .i64 0) ∧ Hid (∃ V', MergeP V U V' ∧ Goes T i w (Hk p V') w') := by
  obtain ⟨b, h, hV⟩ := h
  obtain ⟨b', h', hU⟩ := h'
  obtain ⟨c0, c1, c2, f0⟩ := h.cells
  obtain ⟨d0, d1, d2, _⟩ := h'.cells
  rw [hm] at d0
  have f1 := f0 1
  have hpq : p ≠ q := by
    rintro rfl
    have e1 := h.tp
    have e2 := h'.tp
    rw [e1] at e2
    exact hij (Option.some.inj e2)
  have hpb' : p ≠ b' := by
    rintro rfl
    have e1 := h.tp
    have e2 := h'.tb
    rw [e1] at e2
    exact hij (Option.some.inj e2)
  have KP := made_yes c0 hV.m1
  have KQ := Lib.hid (fun n => made_yes (w := w.drewN n) (p := q) (m := V.m) (by exact d0) hV.m1)
  have hs : ¬ (1125899906842624 : Int) - (V.n : Int) < (U.n : Int) := by omega
  have ws : IntKind.i64.wrap ((1125899906842624 : Int) - (V.n : Int)) = (1125899906842624 : Int) - (V.n : Int) := by rw [IntKind.wrap_i64]; omega
  have wn : IntKind.i64.wrap ((V.n : Int) + (U.n : Int)) = (V.n : Int) + (U.n : Int) := by rw [IntKind.wrap_i64]; omega
  have HH := Lib.hid (And.intro h h')
  have HG := Lib.hid (And.intro hV hU)
  have HM := Lib.hid (And.intro hm hn)
  have HPQ := Lib.hid (And.intro hpq (And.intro hij hpb'))
  clear h h' hV hU hm hn f0 hpq hij hpb'
  go_enter Try.func14, Try.ntmps14
  go_wp2_with fail
  refine KP.mono ?_
  rintro e w' ⟨rfl, rfl⟩
  clear KP
  go_wp2_with fail
  go_quiet ((exact Calls.quiet_of_same ((KQ.out _).mono fun _ _ ⟨h, hw⟩ => ⟨h, hw.symm⟩)))
  go_wp2_with fail
  obtain ⟨W, hW⟩ : ∃ W, w.drewN nq = W := ⟨_, rfl⟩
  have HA : Hid (HkAt T i W p V.m V.n b V.L ∧ HkAt T j W q V.m U.n b' U.L ∧ Else (fun x => T x = some i) w W) := by
    rw [← hW]
    have e2 := HH.out.2
    rw [HM.out.1] at e2
    exact ⟨HH.out.1.drewN nq, e2.drewN nq, (Else.refl _ w).drewN nq⟩
  rw [hW]
  clear hW nq c0 c1 c2 d0 d1 d2 f1 KQ HH
  obtain ⟨c0, c1, c2, f0⟩ := HA.out.1.cells
  obtain ⟨d0, d1, d2, _⟩ := HA.out.2.1.cells
  have f1 := f0 1
  clear f0
  go_quiet (fail)
  obtain ⟨W1, hW⟩ : ∃ W1, W.drewN nq = W1 := ⟨_, rfl⟩
  have HB : Hid (HkAt T i W1 p V.m V.n b V.L ∧ HkAt T j W1 q V.m U.n b' U.L ∧ Else (fun x => T x = some i) w W1) := by
    rw [← hW]
    exact ⟨HA.out.1.drewN nq, HA.out.2.1.drewN nq, HA.out.2.2.drewN nq⟩
  rw [hW]
  clear hW nq c0 c1 c2 d0 d1 d2 f1 HA
  obtain ⟨c0, c1, c2, f0⟩ := HB.out.1.cells
  obtain ⟨d0, d1, d2, _⟩ := HB.out.2.1.cells
  have f1 := f0 1
  clear f0
  go_wp2_with fail
  clear hs ws
  go_region
  clear c0 c1 c2 d0 d1 d2 f1 wn
  go_wp2_with fail
  obtain ⟨W2, hW⟩ : ∃ W2, (W1.setCell ⟨p, 1, none⟩ (.int .i64 ((V.n : Int) + (U.n : Int)))).drew = W2 := ⟨_, rfl⟩
  have HD : Hid (HkAt T i W2 p V.m (V.n + U.n) b V.L ∧ HkAt T j W2 q V.m U.n b' U.L ∧ Else (fun x => T x = some i) w W2) := by
    have e1 := (HB.out.1.set_total (V.n + U.n)).drewN 1
    have e2 : HkAt T j ((W1.setCell ⟨p, 1, none⟩ (.int .i64 ((V.n + U.n : Nat) : Int))).drewN 1) q V.m U.n b' U.L :=
      ⟨(Below.heap_setCell _ _ _ _ (fun e => HPQ.out.1 e.symm)).trans HB.out.2.1.head, HB.out.2.1.tp, HB.out.2.1.map.of_block (Below.heap_setCell _ _ _ _ (fun e => HPQ.out.2.2 e.symm)), HB.out.2.1.tb⟩
    have e3 := (HB.out.2.2.setCell (p := ⟨p, 1, none⟩) (.inl HB.out.1.tp) (.int .i64 ((V.n + U.n : Nat) : Int))).drewN 1
    have e4 : ((V.n + U.n : Nat) : Int) = (V.n : Int) + (U.n : Int) := by simp
    rw [e4] at e1 e2 e3
    rw [← hW]
    exact ⟨e1, e2, e3⟩
  rw [hW]
  clear hW HB
  obtain ⟨d0, _, d2, _⟩ := HD.out.2.1.cells
  have hl1 := HG.out.1.len
  have hl2 := HG.out.2.len
  have hl3 := HG.out.1.m64
  have hl4 := HM.out.1
  have KC := counters_at d0 HG.out.1.m1 d2 HD.out.2.1.map (by omega)
  clear d0 d2
  refine KC.mono ?_
  rintro e w3 ⟨g, c, rfl, hg, hc, hR, hBel⟩
  have hb := HD.out.1.map.lt
  have hp := lt_of_heap HD.out.1.head
  have X0 : Hid (AddAt w3 w3 p V.m (V.n + U.n) b g V.L U.L 0) := Lib.hid
    { head := (hBel.block p hp).trans HD.out.1.head
      row := hR
      map := HD.out.1.map.of_block (hBel.block b hb)
      own := World.grownBy.refl _ _ }
  have hgb : g ≠ b := by omega
  have HE : Hid (Else (fun x => T x = some i) w w3) := HD.out.2.2.trans (Else.of_below (O := fun _ => False) hBel) (fun _ h => h.elim)
  have hl0 : (U.L.length : Int) ≤ 100 := by omega
  have HI : Hid (∀ x ∈ U.L, InI x.1) := fun x hx => (HD.out.2.1.map.inI x hx).1
  have HAS : Hid (Asc V.L) := HD.out.1.map.asc
  have HTB : Hid (T b = some i ∧ T p = some i ∧ p ≠ b) := ⟨HD.out.1.tb, HD.out.1.tp, HD.out.1.ne⟩
  clear KC hR hBel hg hc hb hp HD
  go_wp2_with fail
  go_loopw [52] (fun s wr => ∃ k : Nat, s = .int .i64 k ∧ k ≤ U.L.length ∧ Hid (AddAt w3 wr p V.m (V.n + U.n) b g V.L U.L k)) (fun s _ => U.L.length - (intOf s).toNat)
  case atStart => exact ⟨0, rfl, Nat.zero_le _, X0⟩
  case round =>
    clear X0
    obtain ⟨k, rfl, hk, HX⟩ := hrel
    by_cases hlt : k < U.L.length
    · have hz : (k : Int) < (U.L.length : Int) := by omega
      obtain ⟨y, hy⟩ : ∃ y, U.L[k]? = some y := ⟨_, List.getElem?_eq_getElem hlt⟩
      obtain ⟨r0, r1, _, _⟩ := HX.out.row.cell hy
      have hs1 := HG.out.1.sum
      have hs2 := HG.out.2.sum
      have hs3 := HM.out.2
      obtain ⟨C, C0, C1, hlk, w4, hup, hX4⟩ := add_step HX.out HAS.out HTB.out.2.2 hgb HG.out.1.pos HG.out.2.pos (by omega) (by omega) HI.out hy (.cells #[.int .i64 y.1, .int .i64 y.2] 50)
      have cc2 : wr.cell? ⟨p, 2, none⟩ = some (.map (some b)) := by rw [cell_of_row _ _ _ _ _ _ HX.out.head]; rfl
      have hlk1 := hlk 1
      have hy1 := HG.out.2.pos y (List.mem_of_getElem? hy)
      have wk : IntKind.i64.wrap (C + y.2) = C + y.2 := by rw [IntKind.wrap_i64]; omega
      have X4 := Lib.hid hX4
      clear hy hlk hX4 HX hs1 hs2 hs3 C0 C1 hy1
      go_wp2_with fail
      obtain ⟨W, hW⟩ : ∃ W, wr.alloc (.cells #[.int .i64 y.1, .int .i64 y.2] 50) = W := ⟨_, rfl⟩
      have d2 : W.cell? ⟨p, 2, none⟩ = some (.map (some b)) := by
        rw [← hW, ((Below.refl _ wr).alloc (Nat.le_refl _) _).cell (World.block_lt_of_cell? wr _ cc2)]; exact cc2
      have d0 : W.cell? ⟨wr.heap.size, 0, none⟩ = some (.int .i64 y.1) := by
        rw [cell_of_row _ _ _ _ _ _ (hW ▸ heap_alloc_new wr _)]; rfl
      have d1 : W.cell? ⟨wr.heap.size, 1, none⟩ = some (.int .i64 y.2) := by
        rw [cell_of_row _ _ _ _ _ _ (hW ▸ heap_alloc_new wr _)]; rfl
      rw [hW] at hup hlk1 ⊢
      have hlk2 : Sem.run Try.prog (Instr.lookup 55 (.map (some b)) (.int .i64 y.1) false) W.drew = .ok (.int .i64 C) W.drew := hlk1
      clear hW hlk1 cc2 r0 r1
      go_region
      clear d2 d0 d1 hup hlk2 wk
      go_wp2_with fail
      go_roundw
      case rel => exact ⟨k + 1, by go_num, by omega, X4⟩
      case measure => simp [intOf]; omega
    · obtain rfl : k = U.L.length := by omega
      have hM := HX.out.map
      rw [List.take_length] at hM
      have e0 : wr.cell? ⟨p, 0, none⟩ = some (.int .i64 V.m) := by rw [cell_of_row _ _ _ _ _ _ HX.out.head]; rfl
      have e2 : wr.cell? ⟨p, 2, none⟩ = some (.map (some b)) := by rw [cell_of_row _ _ _ _ _ _ HX.out.head]; rfl
      have hlen := addL_len (L := V.L) U.L
      have KT := top_at e0 HG.out.1.m1 e2 hM (by omega) (V.m + 1) (by omega)
      rw [Int.natCast_add] at KT
      have wm : IntKind.i64.wrap ((V.m : Int) + 1) = (V.m : Int) + 1 := by rw [IntKind.wrap_i64]; omega
      have HMA := Lib.hid hM
      clear hM hlen e2
      go_wp2_with fail
      refine KT.mono ?_
      rintro e w4 ⟨g2, c2, R, rfl, hg2, hRk, hRow, hBel⟩
      have hbw := HX.out.map.lt
      have hpw := lt_of_heap HX.out.head
      have H4 : Hid (HkAt T i w4 p V.m (V.n + U.n) b (addL V.L U.L)) := ⟨(hBel.block p hpw).trans HX.out.head, HTB.out.2.1, HMA.out.of_block (hBel.block b hbw), HTB.out.1⟩
      have E4 : Hid (Else (fun x => T x = some i) w w4) := (HE.out.trans (Else.of_grown HX.out.own) (fun x hx => .inl (by cases hx; exact HTB.out.1))).trans (Else.of_below (O := fun _ => False) hBel) (fun _ h => h.elim)
      obtain ⟨f0, _, _, _⟩ := H4.out.cells
      have HRK := Lib.hid hRk
      have HP : Hid (∀ V', MergeP V U V' → V'.Good) := fun V' h => h.good HG.out.1 HG.out.2 HAS.out HM.out.2
      obtain ⟨A, hA⟩ : ∃ A, addL V.L U.L = A := ⟨_, rfl⟩
      have HAE := Lib.hid hA
      rw [hA] at H4 HRK ⊢
      clear KT wm hRk hBel hg2 e0 HX HMA hbw hpw hA
      by_cases hc : A.length ≤ V.m
      · obtain ⟨K, hK⟩ : ∃ K, min (V.m + 1) A.length = K := ⟨_, rfl⟩
        have hd : decide (V.m < K) = false := decide_eq_false (by omega)
        have FIN : Hid (∃ V', MergeP V U V' ∧ Goes T i w (Hk p V') w4) := by
          have hMP : MergeP V U ⟨V.m, V.n + U.n, A⟩ := ⟨rfl, rfl, .inl ⟨by rw [HAE.out]; exact hc, HAE.out.symm⟩⟩
          exact ⟨_, hMP, T, fun _ _ => rfl, E4.out, b, H4.out, HP.out _ hMP⟩
        rw [hK]
        clear hK hc
        go_wp2_with fail
        go_ret
        exact ⟨rfl, FIN⟩
      · obtain ⟨K, hK⟩ : ∃ K, min (V.m + 1) A.length = K := ⟨_, rfl⟩
        have hd : decide (V.m < K) = true := decide_eq_true (by omega)
        have hd2 : V.m < K := by omega
        have hrl : R.length = A.length := HRK.out.perm.length_eq
        obtain ⟨y, hy⟩ : ∃ y, R[V.m]? = some y := ⟨_, List.getElem?_eq_getElem (by omega)⟩
        obtain ⟨_, r1, _, _⟩ := hRow.cell hy
        have pos : ∀ x ∈ A, 1 ≤ x.2 := by rw [← HAE.out]; exact addL_pos HG.out.1.pos U.L HG.out.2.pos
        have hyA : y ∈ A := HRK.out.perm.mem_iff.1 (List.mem_of_getElem? hy)
        have tot : total A ≤ 2251799813685248 := by
          rw [← HAE.out, addL_total HAS.out]
          have := HG.out.1.sum; have := HG.out.2.sum; have := HM.out.2
          omega
        have hal : A.length ≤ 200 := by rw [← HAE.out]; have := addL_len (L := V.L) U.L; omega
        have KT := take_at H4.out HG.out.1.m1 y.2 (fun x hx => by
          have a1 := pos x hx; have a2 := le_total pos x hx; have a3 := pos y hyA; have a4 := le_total pos y hyA
          unfold InI; omega) (by omega)
        have FIN : Hid (∀ w5, Goes T i w4 (Hl p V.m (V.n + U.n) (less y.2 A)) w5 → ∃ V', MergeP V U V' ∧ Goes T i w (Hk p V') w5) := Lib.hid fun w5 hg => by
          have hMP : MergeP V U ⟨V.m, V.n + U.n, less y.2 A⟩ := ⟨rfl, rfl, .inr ⟨by rw [HAE.out]; omega, R, y, by rw [HAE.out]; exact HRK.out, hy, by rw [HAE.out]⟩⟩
          exact ⟨_, hMP, Goes.after (fun _ _ => rfl) E4.out (hg.map fun T' ⟨b2, hb2⟩ => ⟨b2, hb2, HP.out _ hMP⟩)⟩
        rw [hK]
        clear hK hc hrl hy pos hyA tot hal hRow
        go_wp2_with fail
        refine KT.mono ?_
        rintro e w5 ⟨rfl, H5⟩
        clear KT
        go_wp2_with fail
        go_ret
        exact ⟨rfl, FIN.out w5 H5.out⟩
end Go.Proofs.Ytkmonecolkamjaa
