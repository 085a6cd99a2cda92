/- The texts CelT CelU CelV KmvSets CelX, one behind the other; each one's own comment says what it holds. -/
import Derived.Test.YtlhpbfjelgmkeaaGreatCellOrderRowGI
import Derived.BigQuiet
import Derived.Test.YtlhpbfjelgmkeaaGreatCellOrderRowGH
import Derived.Test.YtlhpbfjelgmkeaaGreatCellOrderRowGE
/- Equal kinds, and a row of pairs as it is read. Conditions: cells that were made, of the same measures, kinds and settings. -/
set_option maxRecDepth 100000
namespace Go.Proofs.YtlhpbfjelgmkeaaGreat
open Go.RowKit Go.Maps Go.Sort Go.Lib

theorem iequal_own {w : World} {a b : Option Addr} {n c d : Nat} {ks : List Int} (h : w.ownsRow 0 3 1 (.slice a n c) ks.length (i64s ks)) (g : w.ownsRow 0 3 1 (.slice b n d) ks.length (i64s ks)) (hn : ks.length = n) (h7 : n ≤ 1000) :
    Calls Tryz.prog 68 #[.slice a n c, .slice b n d] w (Draws (.bool true) w) := by
  rcases Nat.eq_zero_or_pos n with h0 | h0
  · subst h0
    refine (Tryz.slices_Equal_int_empty a b c 0 d w (by omega)).mono ?_
    rintro e w' ⟨rfl, rfl⟩
    exact ⟨rfl, 0, (World.drewN_zero _).symm⟩
  · rcases h.2 with ⟨_, e0⟩ | ⟨g1, cap, cur, e1, _⟩
    · omega
    rcases g.2 with ⟨_, e0⟩ | ⟨g2, cap2, cur2, e2, _⟩
    · omega
    cases e1
    cases e2
    have c1 := fun (j : Nat) (hj : j < ks.length) => h.cells (g := g1) rfl j (.int .i64 (ks.getD j 0)) (by unfold i64s; rw [List.getElem?_map, List.getElem?_eq_getElem hj, List.getD_eq_getElem?_getD, List.getElem?_eq_getElem hj]; rfl)
    have c2 := fun (j : Nat) (hj : j < ks.length) => g.cells (g := g2) rfl j (.int .i64 (ks.getD j 0)) (by unfold i64s; rw [List.getElem?_map, List.getElem?_eq_getElem hj, List.getD_eq_getElem?_getD, List.getElem?_eq_getElem hj]; rfl)
    refine (Tryz.slices_Equal_int g1 0 ks.length _ g2 0 ks.length _ ks ks w (Nat.le_refl _) (Nat.le_refl _) (by omega) (by omega) (fun j hj => by simpa [Addr.add_at] using c1 j hj) (fun j hj => by simpa [Addr.add_at] using c2 j hj)).mono ?_
    rintro e w' ⟨rfl, q, rfl⟩
    exact ⟨by simp, q, rfl⟩
theorem holds2_own {w : World} {B e : Nat} {v : Value} {l : List (Value × Value)} {n : Nat} (h : w.ownsRow B e 2 v n (fl2 l)) (hn : l.length = n) : Holds2 w v l := by
  rcases h.2 with ⟨e1, e0⟩ | ⟨g, cap, cur, e1, _, _, h2, _⟩
  · have : l = [] := List.eq_nil_of_length_eq_zero (by omega)
    subst this
    exact ⟨none, 0, e1, Nat.le_refl _, .inl ⟨rfl, rfl, rfl⟩⟩
  · subst hn
    refine ⟨_, cap, e1, h2, .inr ⟨_, rfl, fun i x hx => ?_⟩⟩
    obtain ⟨a0, a1⟩ := fl2_at l i x hx
    have k0 := h.cells (g := g) (by rw [e1]; rfl) _ _ a0
    have k1 := h.cells (g := g) (by rw [e1]; rfl) _ _ a1
    rw [Addr.add_at] at k0 k1 ⊢
    exact ⟨k0, by simpa [Nat.add_assoc] using k1⟩
end Go.Proofs.YtlhpbfjelgmkeaaGreat
/- Two cells of one shape are alike: the call. Conditions: cells that were made, of the same measures, kinds and settings. -/
set_option maxRecDepth 100000
namespace Go.Proofs.YtlhpbfjelgmkeaaGreat
open Go.RowKit Go.Maps Go.Sort Go.Lib

theorem below_cd2 {B : Nat} {a w : World} (h : Below B a w) : Below B a w.drew := ⟨h.os, h.tape, h.output, h.size, h.block⟩
set_option maxHeartbeats 6400000 in
theorem calike_yes {w0 w : World} {E : List (Nat × Thing)} {i i2 q r : Nat} {L L2 : Lay} {C C2 : Cv} (h : Side w0 E w) (h1 : (i, OBox q (celO L C)) ∈ E) (h2 : (i + 1, RowT 25 2 L.mv C.ms.length (fl2 (C.ms.map meaC))) ∈ E) (h3 : (i + 3, RowT 3 1 L.kv C.ks.length (i64s C.ks)) ∈ E) (h4 : (i + 4, SeedT L.g C.S) ∈ E)
    (g1 : (i2, OBox r (celO L2 C2)) ∈ E) (g2 : (i2 + 1, RowT 25 2 L2.mv C2.ms.length (fl2 (C2.ms.map meaC))) ∈ E) (g3 : (i2 + 3, RowT 3 1 L2.kv C2.ks.length (i64s C2.ks)) ∈ E) (g4 : (i2 + 4, SeedT L2.g C2.S) ∈ E)
    (e1 : C2.ms = C.ms) (e2 : C2.ks = C.ks) (e3 : C2.t = C.t) (e4 : C2.S = C.S) (e5 : C2.K = C.K) (e6 : C2.M = C.M) (h16 : C.ms.length ≤ 16) (k16 : C.ks.length ≤ 16) (s16 : C.S.length ≤ 16) :
    Calls Tryz.prog 39 #[.pointer (some ⟨q, 0, none⟩), .pointer (some ⟨r, 0, none⟩)] w fun e w' => e = .returned (.bool true) ∧ Below w.heap.size w w' := by
  have hq := h.heapO h1
  have hr := h.heapO g1
  obtain ⟨T1, t1⟩ := side_thing h h2
  obtain ⟨T2, t2⟩ := side_thing h g2
  obtain ⟨T3, t3⟩ := side_thing h h3
  obtain ⟨T4, t4⟩ := side_thing h g3
  obtain ⟨T5, t5⟩ := side_thing h h4
  obtain ⟨T6, t6⟩ := side_thing h g4
  obtain ⟨Lm, Lk, Lg, Lc, Ls⟩ := L
  obtain ⟨Mm, Mk, Mg, Mc, Ms⟩ := L2
  obtain ⟨ms, ks, t, S, K, M, rows, st⟩ := C
  obtain ⟨ms2, ks2, tt2, S2, K2, M2, rows2, st2⟩ := C2
  simp only at *
  subst e1 e2 e3 e4 e5 e6
  obtain ⟨ma, mc, hm1, _⟩ := ownsRow_form t1.1
  obtain ⟨mb, md, hm2, _⟩ := ownsRow_form t2.1
  obtain ⟨ka, kc, hk1, _⟩ := ownsRow_form t3.1
  obtain ⟨kb, kd, hk2, _⟩ := ownsRow_form t4.1
  subst hm1 hm2 hk1 hk2
  have KM := Lib.hid (fun (W : World) (hW : Below w.heap.size w W) => mequal_same (n := ms2.length) (holds2_own (ownsRow_below t1.1 hW) (by simp)) (holds2_own (ownsRow_below t2.1 hW) (by simp)) rfl (by omega))
  have KK := Lib.hid (fun (W : World) (hW : Below w.heap.size w W) => iequal_own (n := ks2.length) (ownsRow_below t3.1 hW) (ownsRow_below t4.1 hW) rfl (by omega))
  have KS := Lib.hid (fun (W : World) (hW : Below w.heap.size w W) => equal_same (n := S2.length) (c := Lc) (d := Mc) ((SeedT.framed _ _).below t5 hW).2.2 ((SeedT.framed _ _).below t6 hW).2.2 rfl (by omega))
  obtain ⟨nm, hnm⟩ : ∃ n, ms2.length = n := ⟨_, rfl⟩
  obtain ⟨nk, hnk⟩ : ∃ n, ks2.length = n := ⟨_, rfl⟩
  obtain ⟨ns, hns⟩ : ∃ n, S2.length = n := ⟨_, rfl⟩
  unfold celO at hq hr
  simp only at hq hr
  rw [hnm] at KM
  rw [hnk] at KK
  rw [hns] at KS
  rw [hns] at hq hr
  rw [hnm, hnk] at hq hr
  have c0 : w.cell? ⟨q, 0, none⟩ = some (.slice ma nm mc) := by rw [cell_of_row _ _ _ _ _ _ hq]; rfl
  have d0 : w.cell? ⟨r, 0, none⟩ = some (.slice mb nm md) := by rw [cell_of_row _ _ _ _ _ _ hr]; rfl
  have c1 : w.cell? ⟨q, 1, none⟩ = some (.slice ka nk kc) := by rw [cell_of_row _ _ _ _ _ _ hq]; rfl
  have d1 : w.cell? ⟨r, 1, none⟩ = some (.slice kb nk kd) := by rw [cell_of_row _ _ _ _ _ _ hr]; rfl
  have c2 : w.cell? ⟨q, 2, none⟩ = some (.int .i64 (tt2 : Int)) := by rw [cell_of_row _ _ _ _ _ _ hq]; rfl
  have d2 : w.cell? ⟨r, 2, none⟩ = some (.int .i64 (tt2 : Int)) := by rw [cell_of_row _ _ _ _ _ _ hr]; rfl
  have c3 : w.cell? ⟨q, 3, none⟩ = some (.slice (some ⟨Lg, 0, none⟩) ns Lc) := by rw [cell_of_row _ _ _ _ _ _ hq]; rfl
  have d3 : w.cell? ⟨r, 3, none⟩ = some (.slice (some ⟨Mg, 0, none⟩) ns Mc) := by rw [cell_of_row _ _ _ _ _ _ hr]; rfl
  have c4 : w.cell? ⟨q, 4, none⟩ = some (.int .i64 K2) := by rw [cell_of_row _ _ _ _ _ _ hq]; rfl
  have d4 : w.cell? ⟨r, 4, none⟩ = some (.int .i64 K2) := by rw [cell_of_row _ _ _ _ _ _ hr]; rfl
  have c5 : w.cell? ⟨q, 5, none⟩ = some (.int .i64 M2) := by rw [cell_of_row _ _ _ _ _ _ hq]; rfl
  have d5 : w.cell? ⟨r, 5, none⟩ = some (.int .i64 M2) := by rw [cell_of_row _ _ _ _ _ _ hr]; rfl
  have hb1 := fun o => below_c w o
  have hb2 := fun o o' => (hb1 o).trans ((below_c (w.alloc o) o').mono (hb1 o).size)
  have c21 : ∀ o, (w.alloc o).cell? ⟨q, 2, none⟩ = some (.int .i64 (tt2 : Int)) := fun o => by rw [(hb1 o).cell (lt_of_heap hq)]; exact c2
  have d21 : ∀ o, (w.alloc o).cell? ⟨r, 2, none⟩ = some (.int .i64 (tt2 : Int)) := fun o => by rw [(hb1 o).cell (lt_of_heap hr)]; exact d2
  have c22 : ∀ o o', ((w.alloc o).alloc o').cell? ⟨q, 2, none⟩ = some (.int .i64 (tt2 : Int)) := fun o o' => by rw [(hb2 o o').cell (lt_of_heap hq)]; exact c2
  have d22 : ∀ o o', ((w.alloc o).alloc o').cell? ⟨r, 2, none⟩ = some (.int .i64 (tt2 : Int)) := fun o o' => by rw [(hb2 o o').cell (lt_of_heap hr)]; exact d2
  have c31 : ∀ o, (w.alloc o).cell? ⟨q, 3, none⟩ = some (.slice (some ⟨Lg, 0, none⟩) ns Lc) := fun o => by rw [(hb1 o).cell (lt_of_heap hq)]; exact c3
  have d31 : ∀ o, (w.alloc o).cell? ⟨r, 3, none⟩ = some (.slice (some ⟨Mg, 0, none⟩) ns Mc) := fun o => by rw [(hb1 o).cell (lt_of_heap hr)]; exact d3
  have c32 : ∀ o o', ((w.alloc o).alloc o').cell? ⟨q, 3, none⟩ = some (.slice (some ⟨Lg, 0, none⟩) ns Lc) := fun o o' => by rw [(hb2 o o').cell (lt_of_heap hq)]; exact c3
  have d32 : ∀ o o', ((w.alloc o).alloc o').cell? ⟨r, 3, none⟩ = some (.slice (some ⟨Mg, 0, none⟩) ns Mc) := fun o o' => by rw [(hb2 o o').cell (lt_of_heap hr)]; exact d3
  have c41 : ∀ o, (w.alloc o).cell? ⟨q, 4, none⟩ = some (.int .i64 K2) := fun o => by rw [(hb1 o).cell (lt_of_heap hq)]; exact c4
  have d41 : ∀ o, (w.alloc o).cell? ⟨r, 4, none⟩ = some (.int .i64 K2) := fun o => by rw [(hb1 o).cell (lt_of_heap hr)]; exact d4
  have c42 : ∀ o o', ((w.alloc o).alloc o').cell? ⟨q, 4, none⟩ = some (.int .i64 K2) := fun o o' => by rw [(hb2 o o').cell (lt_of_heap hq)]; exact c4
  have d42 : ∀ o o', ((w.alloc o).alloc o').cell? ⟨r, 4, none⟩ = some (.int .i64 K2) := fun o o' => by rw [(hb2 o o').cell (lt_of_heap hr)]; exact d4
  have c51 : ∀ o, (w.alloc o).cell? ⟨q, 5, none⟩ = some (.int .i64 M2) := fun o => by rw [(hb1 o).cell (lt_of_heap hq)]; exact c5
  have d51 : ∀ o, (w.alloc o).cell? ⟨r, 5, none⟩ = some (.int .i64 M2) := fun o => by rw [(hb1 o).cell (lt_of_heap hr)]; exact d5
  have c52 : ∀ o o', ((w.alloc o).alloc o').cell? ⟨q, 5, none⟩ = some (.int .i64 M2) := fun o o' => by rw [(hb2 o o').cell (lt_of_heap hq)]; exact c5
  have d52 : ∀ o o', ((w.alloc o).alloc o').cell? ⟨r, 5, none⟩ = some (.int .i64 M2) := fun o o' => by rw [(hb2 o o').cell (lt_of_heap hr)]; exact d5
  clear hb1 hb2
  have HQ := Lib.hid (fun (W : World) (hW : Below w.heap.size w W) => And.intro ((hW.block _ (lt_of_heap hq)).trans hq) ((hW.block _ (lt_of_heap hr)).trans hr))
  clear h h1 h2 h3 h4 g1 g2 g3 g4 t1 t2 t3 t4 t5 t6 h16 k16 s16 hnm hnk hns
  go_enter Tryz.func39, Tryz.ntmps39
  go_upto_region 1 with (fail)
  go_cut [5, 6] from 7 to 14 (fun u5 u6 wx => Hid (∃ B5 B6, u5 = .pointer (some ⟨B5, 0, none⟩) ∧ u6 = .pointer (some ⟨B6, 0, none⟩) ∧ Below w.heap.size w wx ∧ wx.heap[B5]? = some (.cells #[.int .i64 (tt2 : Int), .slice (some ⟨Lg, 0, none⟩) ns Lc, .int .i64 K2, .int .i64 M2] 32 (0, 0)) ∧ wx.heap[B6]? = some (.cells #[.int .i64 (tt2 : Int), .slice (some ⟨Mg, 0, none⟩) ns Mc, .int .i64 K2, .int .i64 M2] 32 (0, 0))))
  case first =>
    have hz : ∀ o, (w.alloc o).heap.size = w.heap.size + 1 := fun o => by simp
    have hbb := fun (o o' : Obj) => below_cd2 ((below_c w o).trans ((below_c (w.alloc o) o').mono (below_c w o).size))
    have hn1 := fun (o o' : Obj) => ((below_c (w.alloc o) o').block _ (by rw [hz]; omega)).trans (heap_alloc_new w o)
    have hn2 := fun (o o' : Obj) => (by have := heap_alloc_new (w.alloc o) o'; rwa [hz] at this : ((w.alloc o).alloc o').heap[w.heap.size + 1]? = some o')
    have HH := Lib.hid (And.intro hbb (And.intro hn1 hn2))
    clear hz hbb hn1 hn2
    go_region
    all_goals (go_wp2_with fail; go_meet)
    case _ => exact Lib.hid ⟨_, _, rfl, rfl, HH.out.1 _ _, HH.out.2.1 _ _, HH.out.2.2 _ _⟩
    case _ => exact Lib.hid ⟨_, _, rfl, rfl, HH.out.1 _ _, HH.out.2.2 _ _, HH.out.2.1 _ _⟩
  case rest =>
    obtain ⟨B5, B6, rfl, rfl, hbw, h5, h6⟩ := hcut.out
    have k1 := fun n => KM.out (wc.drewN n) (below_dN hbw n)
    have k2 := fun n => KK.out (wc.drewN n) (below_dN hbw n)
    have k3 := fun n => KS.out (wc.drewN n) (below_dN hbw n)
    obtain ⟨hq2, hr2⟩ := HQ.out wc hbw
    have c0 : wc.cell? ⟨q, 0, none⟩ = some (.slice ma nm mc) := by rw [cell_of_row _ _ _ _ _ _ hq2]; rfl
    have c1 : wc.cell? ⟨q, 1, none⟩ = some (.slice ka nk kc) := by rw [cell_of_row _ _ _ _ _ _ hq2]; rfl
    have d0 : wc.cell? ⟨r, 0, none⟩ = some (.slice mb nm md) := by rw [cell_of_row _ _ _ _ _ _ hr2]; rfl
    have d1 : wc.cell? ⟨r, 1, none⟩ = some (.slice kb nk kd) := by rw [cell_of_row _ _ _ _ _ _ hr2]; rfl
    have a0 : wc.cell? ⟨B5, 0, none⟩ = some (.int .i64 (tt2 : Int)) := by rw [cell_of_row _ _ _ _ _ _ h5]; rfl
    have a1 : wc.cell? ⟨B5, 1, none⟩ = some (.slice (some ⟨Lg, 0, none⟩) ns Lc) := by rw [cell_of_row _ _ _ _ _ _ h5]; rfl
    have a2 : wc.cell? ⟨B5, 2, none⟩ = some (.int .i64 K2) := by rw [cell_of_row _ _ _ _ _ _ h5]; rfl
    have a3 : wc.cell? ⟨B5, 3, none⟩ = some (.int .i64 M2) := by rw [cell_of_row _ _ _ _ _ _ h5]; rfl
    have b0 : wc.cell? ⟨B6, 0, none⟩ = some (.int .i64 (tt2 : Int)) := by rw [cell_of_row _ _ _ _ _ _ h6]; rfl
    have b1 : wc.cell? ⟨B6, 1, none⟩ = some (.slice (some ⟨Mg, 0, none⟩) ns Mc) := by rw [cell_of_row _ _ _ _ _ _ h6]; rfl
    have b2 : wc.cell? ⟨B6, 2, none⟩ = some (.int .i64 K2) := by rw [cell_of_row _ _ _ _ _ _ h6]; rfl
    have b3 : wc.cell? ⟨B6, 3, none⟩ = some (.int .i64 M2) := by rw [cell_of_row _ _ _ _ _ _ h6]; rfl
    unfold Draws at k1 k2 k3
    have K1 := Lib.hid k1
    have K2' := Lib.hid k2
    have K3 := Lib.hid k3
    have HBW := Lib.hid hbw
    clear hcut hbw h5 h6 hq2 hr2 k1 k2 k3 HQ KM KK KS
    go_wp2_with fail
    go_quiet ((first | exact Calls.quiet_of (K1.out _) | exact Calls.quiet_of (K2'.out _) | exact Calls.quiet_of (K3.out _)))
    go_wp2_with fail
    go_ret
    exact ⟨rfl, below_dN HBW.out _⟩
end Go.Proofs.YtlhpbfjelgmkeaaGreat
/- Merge of a cell with another one of its shape. Conditions: both made, of the same measures, kinds and settings; few values. -/
set_option maxRecDepth 100000
namespace Go.Proofs.YtlhpbfjelgmkeaaGreat
open Go.RowKit Go.Maps Go.Sort Go.Lib

def mrg2 (s s' : Nat × Sv) : Nat × Sv := (s.1, mrgS s.2 s'.2)
theorem val_mrg2 (s s' : Nat × Sv) : Sv.val (mrg2 s s').1 (mrg2 s s').2 = Sv.val s.1 s.2 := mrg_val _ _ _
/-- what a merge leaves -/
def Merged (st st2 st' : List (Nat × Sv)) : Prop := st'.length = st.length ∧ ∀ (j : Nat) s s', st[j]? = some s → st2[j]? = some s' → st'[j]? = some (mrg2 s s')
def Merging (st st2 : List (Nat × Sv)) (k : Nat) (A : List (Nat × Sv)) : Prop := A.length = k ∧ ∀ (j : Nat) s s', j < k → st[j]? = some s → st2[j]? = some s' → A[j]? = some (mrg2 s s')
theorem Merging.next {st st2 : List (Nat × Sv)} {k : Nat} {A : List (Nat × Sv)} (h : Merging st st2 k A) {s s' : Nat × Sv} (hs : st[k]? = some s) (hs' : st2[k]? = some s') : Merging st st2 (k + 1) (A ++ [mrg2 s s']) := by
  refine ⟨by rw [List.length_append, h.1]; rfl, fun j t t' hj e1 e2 => ?_⟩
  rcases Nat.lt_or_ge j k with g | g
  · rw [List.getElem?_append_left (by rw [h.1]; exact g)]
    exact h.2 j t t' g e1 e2
  · have : j = k := by omega
    subst this
    rw [hs] at e1
    rw [hs'] at e2
    simp only [Option.some.injEq] at e1 e2
    subst e1 e2
    rw [List.getElem?_append_right (by rw [h.1]; exact Nat.le_refl _), h.1, Nat.sub_self]
    rfl
def mrgC (C C2 : Cv) (st : List (Nat × Sv)) : Cv := { C with rows := C.rows + C2.rows, st := st }
set_option maxHeartbeats 12800000 in
theorem cmerge_two {w0 w : World} {E : List (Nat × Thing)} {i i2 q r : Nat} {L L2 : Lay} {C C2 : Cv} (h : Side w0 (cellE i q L C ++ (cellE i2 r L2 C2 ++ E)) w) (hE : tagsOff i E) (hii : i + 100 ≤ i2 ∨ i2 + 100 ≤ i) {n m1 m2 : Nat}
    (e1 : C2.ms = C.ms) (e2 : C2.ks = C.ks) (e3 : C2.t = C.t) (e4 : C2.S = C.S) (e5 : C2.K = C.K) (e6 : C2.M = C.M) (h16 : C.ms.length ≤ 16) (k16 : C.ks.length ≤ 16) (s16 : C.S.length ≤ 16)
    (hn : n ≤ 16) (hst : C.st.length = n) (hst2 : C2.st.length = n) (ht : 1 ≤ C.t) (hrows : C.rows ≤ 100000) (hrows2 : C2.rows ≤ 100000) (hm : m1 + m2 ≤ 1000000)
    (hal : ∀ (j : Nat) s s', C.st[j]? = some s → C2.st[j]? = some s' → alikeS s.2 s'.2) (hs1 : ∀ s ∈ C.st, smallS m1 s.2) (hs2 : ∀ s ∈ C2.st, smallS m2 s.2) :
    Calls Tryz.prog 13 #[.pointer (some ⟨q, 0, none⟩), .pointer (some ⟨r, 0, none⟩)] w fun e w' => e = .returned (.int .i64 0) ∧ ∃ st', Merged C.st C2.st st' ∧ vals st' = vals C.st ∧ Hid (Side w0 (cellE i q L (mrgC C C2 st') ++ (cellE i2 r L2 C2 ++ E)) w') := by
  have g1 : (i, OBox q (celO L C)) ∈ cellE i q L C ++ (cellE i2 r L2 C2 ++ E) := by unfold cellE; simp
  have g2 : (i2, OBox r (celO L2 C2)) ∈ cellE i q L C ++ (cellE i2 r L2 C2 ++ E) := by unfold cellE; simp
  have hq := h.heapO g1
  have hr := h.heapO g2
  have KM := cmade_yes hq ht
  have KM2 := cmade_yes hr (by rw [e3]; exact ht)
  have KA := calike_yes h g1 (by unfold cellE; simp) (by unfold cellE; simp) (by unfold cellE; simp) g2 (by unfold cellE; simp) (by unfold cellE; simp) (by unfold cellE; simp) e1 e2 e3 e4 e5 e6 h16 k16 s16
  have g3 : (i + 2, RowT 97 1 L.sv C.st.length (vals C.st)) ∈ cellE i q L C ++ (cellE i2 r L2 C2 ++ E) := by unfold cellE; simp
  have g4 : (i2 + 2, RowT 97 1 L2.sv C2.st.length (vals C2.st)) ∈ cellE i q L C ++ (cellE i2 r L2 C2 ++ E) := by unfold cellE; simp
  obtain ⟨T, hT⟩ := side_thing h g3
  obtain ⟨T2, hT2⟩ := side_thing h g4
  obtain ⟨sa, sc, hsv, _⟩ := ownsRow_form hT.1
  obtain ⟨sb, sd, hsv2, _⟩ := ownsRow_form hT2.1
  rw [hst] at hsv
  rw [hst2] at hsv2
  obtain ⟨P, hP⟩ : ∃ P : Ending → World → Prop, (fun e w' => e = .returned (.int .i64 0) ∧ ∃ st', Merged C.st C2.st st' ∧ vals st' = vals C.st ∧ Hid (Side w0 (cellE i q L (mrgC C C2 st') ++ (cellE i2 r L2 C2 ++ E)) w')) = P := ⟨_, rfl⟩
  rw [hP]
  have FYE := Lib.hid (fun (W : World) (st' : List (Nat × Sv)) (ha : Merged C.st C2.st st') (hvs : vals st' = vals C.st) (hS : Side w0 (cellE i q L (mrgC C C2 st') ++ (cellE i2 r L2 C2 ++ E)) W) => (by rw [← hP]; exact ⟨rfl, st', ha, hvs, Lib.hid hS⟩ : P (.returned (.int .i64 0)) W))
  obtain ⟨R, hR⟩ : ∃ R, C.rows = R := ⟨_, rfl⟩
  obtain ⟨R2, hR2⟩ : ∃ R, C2.rows = R := ⟨_, rfl⟩
  have HS := Lib.hid h
  have HE := Lib.hid hE
  have HII := Lib.hid hii
  have HST := Lib.hid hst
  have HST2 := Lib.hid hst2
  have HSM := Lib.hid hs1
  have HSM2 := Lib.hid hs2
  have HAL := Lib.hid hal
  have HM := Lib.hid hm
  have HSV := Lib.hid hsv
  have HSV2 := Lib.hid hsv2
  have HRR := Lib.hid hR
  have HRR2 := Lib.hid hR2
  have HRW := Lib.hid hrows
  have HRW2 := Lib.hid hrows2
  clear h g1 g2 g3 g4 hq hr hT hT2 hsv hsv2 hE hii hst hst2 hs1 hs2 hal hm hP ht hR hR2 hrows hrows2 e1 e2 e3 e4 e5 e6 h16 k16 s16
  go_enter Tryz.func13, Tryz.ntmps13
  go_wp2_with fail
  refine KM.mono ?_
  rintro e w1 ⟨rfl, rfl⟩
  clear KM
  go_wp2_with fail
  refine KM2.mono ?_
  rintro e w1 ⟨rfl, rfl⟩
  clear KM2
  go_wp2_with fail
  refine KA.mono ?_
  rintro e w2 ⟨rfl, hb2⟩
  have S2 := Lib.hid ((HS.out.below hb2).drew)
  clear KA hb2 HS
  have hq2 := S2.out.heapO (i := i) (b := q) (ob := celO L C) (by unfold cellE; simp)
  have hr2 := S2.out.heapO (i := i2) (b := r) (ob := celO L2 C2) (by unfold cellE; simp)
  have C5 : w2.drew.cell? ⟨q, 6, none⟩ = some (.int .i64 (R : Int)) ∧ w2.drew.cell? ⟨r, 6, none⟩ = some (.int .i64 (R2 : Int)) := ⟨by rw [cell_of_row _ _ _ _ _ _ hq2]; show some (Value.int .i64 (C.rows : Int)) = _; rw [HRR.out], by rw [cell_of_row _ _ _ _ _ _ hr2]; show some (Value.int .i64 (C2.rows : Int)) = _; rw [HRR2.out]⟩
  have f6 := free_of_row hq2 6
  have KP := cplus_any R R2 (by have := HRW.out; have := HRR.out; have := HRW2.out; have := HRR2.out; omega) w2.drew
  have S3 : Hid (∃ A, Merging C.st C2.st 0 A ∧ vals (A ++ C.st.drop 0) = vals C.st ∧ Side w0 (cellE i q L (mrgC C C2 (A ++ C.st.drop 0)) ++ (cellE i2 r L2 C2 ++ E)) (w2.drew.setCell ⟨q, 6, none⟩ (.int .i64 ((R + R2 : Nat) : Int)))) := Lib.hid (by
    refine ⟨[], ⟨rfl, fun j _ _ hj => absurd hj (by omega)⟩, by simp, ?_⟩
    have hS := S2.out
    have hoff : ∀ e ∈ cellE i2 r L2 C2 ++ E, e.1 ≠ i := fun e he => by
      rcases List.mem_append.1 he with he | he
      · have := cell_tags (by rw [HST2.out]; exact hn) e he
        have := HII.out
        omega
      · have := HE.out e he; omega
    have hS1 := hS.sub (E' := (i, OBox q (celO L C)) :: (i + 1, RowT 25 2 L.mv C.ms.length (fl2 (C.ms.map meaC))) :: (i + 2, RowT 97 1 L.sv C.st.length (vals C.st)) :: (i + 3, RowT 3 1 L.kv C.ks.length (i64s C.ks)) :: (i + 4, SeedT L.g C.S) :: (stE (i + 5) C.st ++ (cellE i2 r L2 C2 ++ E))) (fun x hx => by
      rw [show cellE i q L C = (i, OBox q (celO L C)) :: (i + 1, RowT 25 2 L.mv C.ms.length (fl2 (C.ms.map meaC))) :: (i + 2, RowT 97 1 L.sv C.st.length (vals C.st)) :: (i + 3, RowT 3 1 L.kv C.ks.length (i64s C.ks)) :: (i + 4, SeedT L.g C.S) :: stE (i + 5) C.st from rfl]
      simpa using hx)
    have := Side.set (j := 6) hS1 (fun e he => by
      rcases List.mem_cons.1 he with rfl | he
      · intro h; dsimp only at h; omega
      rcases List.mem_cons.1 he with rfl | he
      · intro h; dsimp only at h; omega
      rcases List.mem_cons.1 he with rfl | he
      · intro h; dsimp only at h; omega
      rcases List.mem_cons.1 he with rfl | he
      · intro h; dsimp only at h; omega
      rcases List.mem_append.1 he with he | he
      · have := stE_mem _ _ _ he; omega
      · exact hoff e he) (.int .i64 ((R + R2 : Nat) : Int))
    refine this.sub (fun x hx => ?_)
    rw [show cellE i q L (mrgC C C2 ([] ++ List.drop 0 C.st)) = (i, OBox q (celO L (mrgC C C2 C.st))) :: (i + 1, RowT 25 2 L.mv C.ms.length (fl2 (C.ms.map meaC))) :: (i + 2, RowT 97 1 L.sv C.st.length (vals C.st)) :: (i + 3, RowT 3 1 L.kv C.ks.length (i64s C.ks)) :: (i + 4, SeedT L.g C.S) :: stE (i + 5) C.st from rfl] at hx
    unfold celO mrgC at hx
    rw [HRR.out, HRR2.out] at hx
    simpa using hx)
  clear S2 hq2 hr2
  obtain ⟨R3, hR3⟩ : ∃ x, R + R2 = x := ⟨_, rfl⟩
  rw [hR3] at KP S3
  clear hR3
  go_upto_region 5 with (fail)
  refine wp_region_mix (fun V => V.cell? ⟨q, 6, none⟩ = some (.int .i64 (R : Int)) ∧ V.cell? ⟨r, 6, none⟩ = some (.int .i64 (R2 : Int))) 12 [(true, 0), (true, 1), (true, 2), (true, 3), (true, 4), (true, 5), (true, 6), (true, 7), (true, 8), (false, 9), (true, 10), (true, 11), (false, 12)] (by kernel_rfl) (by decide +kernel) rfl (by decide +kernel) C5 ?_
  iterate 9
    refine wpMix_take (v := ?_) rfl rfl ?_ ?_
    rotate_left
    · (intro W hW; (try dsimp only at hW); go_simp) <;> with_reducible rfl
    simp only [Act.put, List.setIfInBounds_toArray, List.set_cons_zero, List.set_cons_succ]
  refine wpMix_run rfl ?_
  intro K' hK'
  go_wp2_with fail
  refine KP.mono ?_
  rintro e w' ⟨rfl, rfl⟩
  go_wp2_with fail
  refine hK'.out _ _ (fun _ => C5) ?_
  clear hK' K' KP
  iterate 2
    refine wpMix_take (v := ?_) rfl rfl ?_ ?_
    rotate_left
    · (intro W hW; (try dsimp only at hW); go_simp) <;> with_reducible rfl
    simp only [Act.put, List.setIfInBounds_toArray, List.set_cons_zero, List.set_cons_succ]
  obtain ⟨c0, _⟩ := C5
  refine wpMix_run rfl ?_
  intro K' hK'
  go_wp2_with fail
  refine hK'.out _ _ (fun h => absurd rfl h) ?_
  clear hK' K' c0 f6
  refine wpMix_nil ?_
  have c7 : (w2.setCell ⟨q, 6, none⟩ (.int .i64 (R3 : Int))).cell? ⟨q, 7, none⟩ = some (.slice sa n sc) := by
    obtain ⟨A0, _, _, hS0⟩ := S3.out
    have hV := hS0.heapO (i := i) (b := q) (ob := celO L (mrgC C C2 (A0 ++ C.st.drop 0))) (by unfold cellE; simp)
    have hV' : (w2.setCell ⟨q, 6, none⟩ (.int .i64 (R3 : Int))).heap[q]? = some (celO L (mrgC C C2 (A0 ++ C.st.drop 0))) := hV
    rw [cell_of_row _ _ _ _ _ _ hV']
    show some L.sv = _
    rw [HSV.out]
  go_wp2_with fail
  go_loopw [38] (fun s38 W => ∃ k : Nat, s38 = .int .i64 k ∧ k ≤ n ∧ Hid (∃ A, Merging C.st C2.st k A ∧ vals (A ++ C.st.drop k) = vals C.st ∧ Side w0 (cellE i q L (mrgC C C2 (A ++ C.st.drop k)) ++ (cellE i2 r L2 C2 ++ E)) W)) (fun s38 _ => n - (RowKit.intOf s38).toNat)
  case atStart => exact ⟨0, rfl, by omega, S3⟩
  case round =>
    clear S3 c7
    obtain ⟨k, rfl, hk, HR⟩ := hrel
    by_cases hlt : k < n
    · obtain ⟨A, hA, hvs, hS⟩ := HR.out
      obtain ⟨⟨b, s⟩, hs⟩ : ∃ x, C.st[k]? = some x := ⟨_, List.getElem?_eq_getElem (by rw [HST.out]; exact hlt)⟩
      obtain ⟨⟨c, s'⟩, hs'⟩ : ∃ x, C2.st[k]? = some x := ⟨_, List.getElem?_eq_getElem (by rw [HST2.out]; exact hlt)⟩
      have hdr : C.st.drop k = (b, s) :: C.st.drop (k + 1) := by
        have hlk : k < C.st.length := by rw [HST.out]; exact hlt
        rw [List.drop_eq_getElem_cons hlk]
        rw [List.getElem?_eq_getElem hlk] at hs
        rw [Option.some.inj hs]
      obtain ⟨D, hD⟩ : ∃ D, C.st.drop (k + 1) = D := ⟨_, rfl⟩
      rw [hD] at hdr
      rw [hdr] at hvs hS
      have hlA := hA.1
      have hal := HAL.out k _ _ hs hs'
      have hsm1 := HSM.out _ (List.mem_of_getElem? hs)
      have hsm2 := HSM2.out _ (List.mem_of_getElem? hs')
      simp only at hal hsm1 hsm2
      have l0 : (0 : Int) ≤ (k : Int) := Int.natCast_nonneg k
      have l1 : (k : Int) < (n : Int) := Int.ofNat_lt.2 hlt
      have hwk : IntKind.i64.wrap ((k : Int) + 1) = (k : Int) + 1 := by rw [IntKind.wrap_i64]; omega
      have HLT := Lib.hid hlt
      have HNX := Lib.hid (hA.next hs hs')
      have HVN : Hid (vals ((A ++ [mrg2 (b, s) (c, s')]) ++ C.st.drop (k + 1)) = vals C.st) := Lib.hid (by
        rw [← hvs, hD]
        simp only [vals, List.map_append, List.map_cons, List.append_assoc, List.cons_append, List.nil_append, val_mrg2])
      have HDD := Lib.hid hD
      have HLA := Lib.hid hlA
      have HHK := Lib.hid hk
      obtain ⟨ty, f, HT⟩ := mrg_call b s
      obtain ⟨ty2, f2, HT2⟩ := mrg_call c s'
      have HTC := Lib.hid HT
      have hval := HT.val
      have hval2 := HT2.val
      have hmeth := HT.meth
      have hahead := HT.ahead
      have hent := HT.ent
      unfold EntC at hent
      have hX : Side w0 ((i + 5 + k, StT b s) :: (i, OBox q (celO L (mrgC C C2 (A ++ (b, s) :: D)))) :: (i + 1, RowT 25 2 L.mv C.ms.length (fl2 (C.ms.map meaC))) :: (i + 2, RowT 97 1 L.sv (A ++ (b, s) :: D).length (vals (A ++ (b, s) :: D))) :: (i + 3, RowT 3 1 L.kv C.ks.length (i64s C.ks)) :: (i + 4, SeedT L.g C.S) :: (stE (i + 5) A ++ (stE (i + 5 + k + 1) D ++ (cellE i2 r L2 C2 ++ E)))) wr := hS.sub (fun x hx => by
        rw [show cellE i q L (mrgC C C2 (A ++ (b, s) :: D)) = (i, OBox q (celO L (mrgC C C2 (A ++ (b, s) :: D)))) :: (i + 1, RowT 25 2 L.mv C.ms.length (fl2 (C.ms.map meaC))) :: (i + 2, RowT 97 1 L.sv (A ++ (b, s) :: D).length (vals (A ++ (b, s) :: D))) :: (i + 3, RowT 3 1 L.kv C.ks.length (i64s C.ks)) :: (i + 4, SeedT L.g C.S) :: stE (i + 5) (A ++ (b, s) :: D) from rfl, stE_app, HLA.out, stE]
        simp only [List.mem_cons, List.mem_append] at hx ⊢
        rcases hx with hx | hx | hx | hx | hx | hx | hx | hx | hx | hx <;> simp [hx])
      have HX9 := Lib.hid hX.drew
      have hqq := HX9.out.heapO (i := i) (b := q) (ob := celO L (mrgC C C2 (A ++ (b, s) :: D))) (by simp)
      have hrr := HX9.out.heapO (i := i2) (b := r) (ob := celO L2 C2) (by unfold cellE; simp)
      obtain ⟨T9, hT9⟩ := side_thing HX9.out (i := i + 2) (A := RowT 97 1 L.sv (A ++ (b, s) :: D).length (vals (A ++ (b, s) :: D))) (by simp)
      obtain ⟨T8, hT8⟩ := side_thing HX9.out (i := i2 + 2) (A := RowT 97 1 L2.sv C2.st.length (vals C2.st)) (by unfold cellE; simp)
      have hr9 := hT9.1
      have hr8 := hT8.1
      rw [HSV.out] at hr9
      rw [HSV2.out] at hr8
      obtain ⟨sad, hsad, hsc⟩ := row_cell1 hr9 (j := k) (u := .iface ty (.pointer (some ⟨b, 0, none⟩))) (by
        unfold vals
        rw [List.getElem?_map, List.getElem?_append_right (by rw [HLA.out]; exact Nat.le_refl _), HLA.out, Nat.sub_self]
        show some (Sv.val b s) = _
        rw [hval])
      obtain ⟨sbd, hsbd, hsd⟩ := row_cell1 hr8 (j := k) (u := .iface ty2 (.pointer (some ⟨c, 0, none⟩))) (by
        unfold vals
        rw [List.getElem?_map, hs']
        show some (Sv.val c s') = _
        rw [hval2])
      rcases hsad with rfl
      rcases hsbd with rfl
      have x0 : wr.cell? (sad.add k) = some (.iface ty (.pointer (some ⟨b, 0, none⟩))) := hsc
      have C9 : wr.drew.cell? ⟨r, 7, none⟩ = some (.slice (some sbd) n sd) ∧ wr.drew.cell? (sbd.add k) = some (.iface ty2 (.pointer (some ⟨c, 0, none⟩))) := ⟨by rw [cell_of_row _ _ _ _ _ _ hrr]; show some L2.sv = _; rw [HSV2.out], hsd⟩
      have KT := HTC.out.call (m := m1) (n := m2) (j' := i2 + 5 + k) (c := c) (s' := s') HX9.out (fun e he => by
        simp only [List.mem_cons, List.mem_append] at he
        rcases he with rfl | rfl | rfl | rfl | rfl | he | he | he | he
        · intro h; dsimp only at h; omega
        · intro h; dsimp only at h; omega
        · intro h; dsimp only at h; omega
        · intro h; dsimp only at h; omega
        · intro h; dsimp only at h; omega
        · have := stE_mem _ _ _ he; have := HLA.out; omega
        · have := stE_mem _ _ _ he; omega
        · have := cell_tags (by rw [HST2.out]; exact hn) e he; have := HII.out; have := HHK.out; omega
        · have := HE.out e he; have := HHK.out; omega) (by
        have := stE_at (i2 + 5) C2.st k (c, s') hs'
        unfold cellE
        simp [this]) hal hsm1 hsm2 HM.out
      rw [hval2] at KT
      have S11 : Hid (∀ W, Side w0 ((i + 5 + k, StT b (mrgS s s')) :: (i, OBox q (celO L (mrgC C C2 (A ++ (b, s) :: D)))) :: (i + 1, RowT 25 2 L.mv C.ms.length (fl2 (C.ms.map meaC))) :: (i + 2, RowT 97 1 L.sv (A ++ (b, s) :: D).length (vals (A ++ (b, s) :: D))) :: (i + 3, RowT 3 1 L.kv C.ks.length (i64s C.ks)) :: (i + 4, SeedT L.g C.S) :: (stE (i + 5) A ++ (stE (i + 5 + k + 1) D ++ (cellE i2 r L2 C2 ++ E)))) W → Side w0 (cellE i q L (mrgC C C2 ((A ++ [mrg2 (b, s) (c, s')]) ++ C.st.drop (k + 1))) ++ (cellE i2 r L2 C2 ++ E)) W) := Lib.hid fun W hW => by
        rw [HDD.out, List.append_assoc, List.singleton_append]
        refine hW.sub (fun x hx => ?_)
        have hve : vals (A ++ mrg2 (b, s) (c, s') :: D) = vals (A ++ (b, s) :: D) := by simp [vals, mrg2, mrg_val]
        rw [show cellE i q L (mrgC C C2 (A ++ mrg2 (b, s) (c, s') :: D)) = (i, OBox q (celO L (mrgC C C2 (A ++ (b, s) :: D)))) :: (i + 1, RowT 25 2 L.mv C.ms.length (fl2 (C.ms.map meaC))) :: (i + 2, RowT 97 1 L.sv (A ++ mrg2 (b, s) (c, s') :: D).length (vals (A ++ mrg2 (b, s) (c, s') :: D))) :: (i + 3, RowT 3 1 L.kv C.ks.length (i64s C.ks)) :: (i + 4, SeedT L.g C.S) :: stE (i + 5) (A ++ mrg2 (b, s) (c, s') :: D) from rfl, hve, stE_app, HLA.out, stE] at hx
        simp only [List.mem_cons, List.mem_append, List.length_append, List.length_cons] at hx ⊢
        rcases hx with (hx | hx | hx | hx | hx | hx | hx | hx) | hx | hx
        · simp [hx]
        · simp [hx]
        · simp [hx]
        · simp [hx]
        · simp [hx]
        · simp [hx]
        · subst hx; simp [mrg2]
        · simp [hx]
        · simp [hx]
        · simp [hx]
      clear hA hvs hS hs hs' hdr hD hal hsm1 hsm2 hk HR hlA hX HT HT2 hval hval2 hqq hrr hT9 hT8 hr9 hr8 hsc hsd
      go_upto_region 9 with (fail)
      refine wp_region_mix (fun V => V.cell? ⟨r, 7, none⟩ = some (.slice (some sbd) n sd) ∧ V.cell? (sbd.add k) = some (.iface ty2 (.pointer (some ⟨c, 0, none⟩)))) 11 [(true, 0), (true, 1), (true, 2), (true, 3), (true, 4), (true, 5), (true, 6), (true, 7), (true, 8), (true, 9), (true, 10), (false, 11)] (by kernel_rfl) (by decide +kernel) rfl (by decide +kernel) C9 ?_
      iterate 11
        refine wpMix_take (v := ?_) rfl rfl ?_ ?_
        rotate_left
        · (intro W hW; (try dsimp only at hW); go_simp) <;> with_reducible rfl
        simp only [Act.put, List.setIfInBounds_toArray, List.set_cons_zero, List.set_cons_succ]
      refine wpMix_run rfl ?_
      intro K' hK'
      go_wp2_with fail
      refine KT.mono ?_
      rintro e w9 ⟨rfl, S12⟩
      have S13 := Lib.hid (S11.out _ S12.out)
      clear KT S12 S11 C9 HX9
      go_wp2_with fail
      refine hK'.out _ _ (fun h => absurd rfl h) ?_
      clear hK' K'
      refine wpMix_nil ?_
      go_wp2_with fail
      go_roundw
      case rel => exact ⟨k + 1, by go_num, by have := HLT.out; omega, Lib.hid ⟨A ++ [mrg2 (b, s) (c, s')], HNX.out, HVN.out, S13.out⟩⟩
      case measure => have := HLT.out; simp [RowKit.intOf]; omega
    · obtain ⟨A, hA, hvs, hS⟩ := HR.out
      have hkn : k = n := by omega
      have hd0 : C.st.drop k = [] := List.drop_eq_nil_of_le (by rw [HST.out]; omega)
      rw [hd0, List.append_nil] at hvs hS
      have FI := FYE.out wr A ⟨by rw [hA.1, HST.out]; exact hkn, fun j s s' e1 e2 => hA.2 j s s' (by have h := (List.getElem?_eq_some_iff.1 e1).1; rw [HST.out] at h; omega) e1 e2⟩ hvs hS
      have hlt' : ¬ ((k : Int) < (n : Int)) := by omega
      clear hA hvs hS HR hlt hk hkn hd0
      go_wp2_with fail
      exact FI
end Go.Proofs.YtlhpbfjelgmkeaaGreat
/- Sketches as sets: which numbers a sketch stands for; insertions and merges; equal sets, equal sketches. Conditions: none. -/
set_option maxRecDepth 100000
namespace Go.Proofs.YtlhpbfjelgmkeaaGreat
open Go.RowKit Go.Maps Go.Sort

/-- V has T and seeds, and each copy has the least hashes of the numbers of X -/
structure OfSet (t : Nat) (S : List (Nat × Nat)) (X : Nat → Prop) (V : SkV) : Prop where
  ht : V.t = t
  hs : V.seeds = S
  hl : V.L.length = S.length
  least : ∀ j (hj : j < V.L.length), Least t (fun y => ∃ x, X x ∧ y = V.hash j x) V.L[j]

section
variable {t : Nat} {S : List (Nat × Nat)} {X Y : Nat → Prop} {V U : SkV}
theorem SkV.hash_eq (h : U.seeds = V.seeds) (j x : Nat) : U.hash j x = V.hash j x := by unfold SkV.hash; rw [h]
theorem OfSet.empty (t : Nat) (S : List (Nat × Nat)) : OfSet t S (fun _ => False) (SkV.empty t S) where
  ht := rfl
  hs := rfl
  hl := by simp [SkV.empty]
  least := fun j hj => by
    simp only [SkV.empty, List.getElem_replicate]
    exact Least.iff (Least.nil t) fun x => ⟨fun ⟨_, h, _⟩ => h, fun h => h.elim⟩
theorem OfSet.ins (h : OfSet t S X V) (x : Nat) : OfSet t S (fun z => z = x ∨ X z) (V.ins x) where
  ht := h.ht
  hs := h.hs
  hl := by simp [SkV.ins, h.hl]
  least := fun j hj => by
    have hj' : j < V.L.length := by simpa [SkV.ins] using hj
    have := (h.least j hj').add (V.hash j x)
    have e : (V.ins x).L[j] = addL t (V.hash j x) V.L[j] := by simp [SkV.ins, h.ht]
    rw [e]
    refine this.iff fun y => ?_
    constructor
    · rintro ⟨z, rfl | hz, rfl⟩
      · exact .inl rfl
      · exact .inr ⟨z, hz, rfl⟩
    · rintro (rfl | ⟨z, hz, rfl⟩)
      · exact ⟨x, .inl rfl, rfl⟩
      · exact ⟨z, .inr hz, rfl⟩
theorem OfSet.merge (h : OfSet t S X V) (g : OfSet t S Y U) : OfSet t S (fun z => X z ∨ Y z) (V.merge U) where
  ht := h.ht
  hs := h.hs
  hl := by simp [SkV.merge, h.hl]
  least := fun j hj => by
    have hj' : j < V.L.length := by simpa [SkV.merge] using hj
    have hjU : j < U.L.length := by rw [g.hl, ← h.hl]; exact hj'
    have := (h.least j hj').merge (g.least j hjU)
    have e : (V.merge U).L[j] = mergeL t V.L[j] U.L[j] := by
      simp only [SkV.merge, List.getElem_mapIdx, h.ht]
      rw [getD_at hjU]
    rw [e]
    refine this.iff fun y => ?_
    have hh : ∀ z, U.hash j z = V.hash j z := fun z => SkV.hash_eq (by rw [h.hs, g.hs]) j z
    constructor
    · rintro ⟨z, hz | hz, rfl⟩
      · exact .inl ⟨z, hz, rfl⟩
      · exact .inr ⟨z, hz, (hh z).symm⟩
    · rintro (⟨z, hz, rfl⟩ | ⟨z, hz, rfl⟩)
      · exact ⟨z, .inl hz, rfl⟩
      · exact ⟨z, .inr hz, hh z⟩
theorem OfSet.iff (h : OfSet t S X V) (hXY : ∀ z, Y z ↔ X z) : OfSet t S Y V :=
  ⟨h.ht, h.hs, h.hl, fun j hj => (h.least j hj).iff fun _ => ⟨fun ⟨x, hx, e⟩ => ⟨x, (hXY x).1 hx, e⟩, fun ⟨x, hx, e⟩ => ⟨x, (hXY x).2 hx, e⟩⟩⟩
/-- one set, one sketch -/
theorem OfSet.eq (h : OfSet t S X V) (g : OfSet t S X U) : V = U := by
  have hL : V.L = U.L := by
    refine List.ext_getElem (by rw [h.hl, g.hl]) fun j h1 h2 => ?_
    exact least_eq (h.least j h1) ((g.least j h2).iff fun _ => ⟨fun ⟨x, hx, e⟩ => ⟨x, hx, by rw [e]; exact (SkV.hash_eq (by rw [h.hs, g.hs]) j x).symm⟩, fun ⟨x, hx, e⟩ => ⟨x, hx, by rw [e]; exact SkV.hash_eq (by rw [h.hs, g.hs]) j x⟩⟩)
  cases V; cases U
  simp only [SkV.mk.injEq]
  exact ⟨h.ht.trans g.ht.symm, h.hs.trans g.hs.symm, hL⟩
theorem OfSet.eq' (h : OfSet t S X V) (g : OfSet t S Y U) (hXY : ∀ z, Y z ↔ X z) : V = U := h.eq (g.iff fun z => (hXY z).symm)
theorem OfSet.ins_take {l : List Nat} {m : Nat} (hm : m < l.length) (h : OfSet t S (fun z => z ∈ l.take m) V) : OfSet t S (fun z => z ∈ l.take (m + 1)) (V.ins l[m]) :=
  (h.ins l[m]).iff fun z => by rw [List.take_succ_eq_append_getElem hm]; simp only [List.mem_append, List.mem_singleton, or_comm]
end

theorem u64s_nats (l : List UInt64) : u64s l = nats (l.map UInt64.toNat) := by simp [u64s, nats]
theorem toNat_lt (l : List UInt64) : ∀ x ∈ l.map UInt64.toNat, x < 18446744073709551616 := by
  intro x hx
  obtain ⟨c, _, rfl⟩ := List.mem_map.1 hx
  exact c.toNat_lt
end Go.Proofs.YtlhpbfjelgmkeaaGreat
/- What five measures keep of whole numbers, plain: it hangs on which numbers there were, not on their order. Conditions: none. -/
set_option maxRecDepth 100000
namespace Go.Proofs.YtlhpbfjelgmkeaaGreat
open Go.RowKit Go.Maps Go.Sort Go.Lib

/-- an Int -/
def intV (n : Int) : VV := ⟨1, n, ⟨#[]⟩⟩
theorem cmp_int (a b : Int) : cmpVV (intV a) (intV b) = cmpI a b := rfl
theorem cmp_none (a : Int) : cmpVV (intV a) VV.none_ = 1 := rfl
/-- the least of numbers; a Null, if there are none -/
def IsLow (l : List Int) (v : VV) : Prop := (l = [] ∧ v = VV.none_) ∨ ∃ n, n ∈ l ∧ v = intV n ∧ ∀ m ∈ l, n ≤ m
def IsHigh (l : List Int) (v : VV) : Prop := (l = [] ∧ v = VV.none_) ∨ ∃ n, n ∈ l ∧ v = intV n ∧ ∀ m ∈ l, m ≤ n
theorem IsLow.step {l : List Int} {v : VV} (h : IsLow l v) (n : Int) : IsLow (l ++ [n]) (lowV v (intV n)) := by
  rcases h with ⟨rfl, rfl⟩ | ⟨k, hk, rfl, hm⟩
  · exact .inr ⟨n, by simp, low_null rfl, fun m hm => by simp at hm; omega⟩
  · by_cases hc : n < k
    · rw [low_less rfl (by rw [cmp_int]; unfold cmpI; rw [if_pos hc]; rfl)]
      refine .inr ⟨n, by simp, rfl, fun m hm' => ?_⟩
      rcases List.mem_append.1 hm' with hm' | hm'
      · have := hm m hm'; omega
      · simp at hm'; omega
    · rw [low_stay rfl (by rw [cmp_int]; unfold cmpI; rw [if_neg hc]; split <;> rfl)]
      refine .inr ⟨k, by simp [hk], rfl, fun m hm' => ?_⟩
      rcases List.mem_append.1 hm' with hm' | hm'
      · exact hm m hm'
      · simp at hm'; omega
theorem IsHigh.step {l : List Int} {v : VV} (h : IsHigh l v) (n : Int) : IsHigh (l ++ [n]) (highV v (intV n)) := by
  rcases h with ⟨rfl, rfl⟩ | ⟨k, hk, rfl, hm⟩
  · exact .inr ⟨n, by simp, high_more (by rw [cmp_none]; rfl), fun m hm => by simp at hm; omega⟩
  · by_cases hc : k < n
    · rw [high_more (by rw [cmp_int]; unfold cmpI; rw [if_neg (by omega), if_pos hc]; rfl)]
      refine .inr ⟨n, by simp, rfl, fun m hm' => ?_⟩
      rcases List.mem_append.1 hm' with hm' | hm'
      · have := hm m hm'; omega
      · simp at hm'; omega
    · rw [high_stay (by
        rw [cmp_int]
        unfold cmpI
        split
        · rfl
        · rfl)]
      refine .inr ⟨k, by simp [hk], rfl, fun m hm' => ?_⟩
      rcases List.mem_append.1 hm' with hm' | hm'
      · exact hm m hm'
      · simp at hm'; omega
theorem IsLow.one {l m : List Int} {v u : VV} (h : IsLow l v) (g : IsLow m u) (hlm : ∀ x, x ∈ l ↔ x ∈ m) : v = u := by
  rcases h with ⟨rfl, rfl⟩ | ⟨a, ha, rfl, hm⟩
  · rcases g with ⟨_, rfl⟩ | ⟨b, hb, _⟩
    · rfl
    · exact absurd ((hlm b).2 hb) (by simp)
  · rcases g with ⟨rfl, _⟩ | ⟨b, hb, rfl, hn⟩
    · exact absurd ((hlm a).1 ha) (by simp)
    · have h1 := hm b ((hlm b).2 hb)
      have h2 := hn a ((hlm a).1 ha)
      rw [show a = b by omega]
theorem IsHigh.one {l m : List Int} {v u : VV} (h : IsHigh l v) (g : IsHigh m u) (hlm : ∀ x, x ∈ l ↔ x ∈ m) : v = u := by
  rcases h with ⟨rfl, rfl⟩ | ⟨a, ha, rfl, hm⟩
  · rcases g with ⟨_, rfl⟩ | ⟨b, hb, _⟩
    · rfl
    · exact absurd ((hlm b).2 hb) (by simp)
  · rcases g with ⟨rfl, _⟩ | ⟨b, hb, rfl, hn⟩
    · exact absurd ((hlm a).1 ha) (by simp)
    · have h1 := hm b ((hlm b).2 hb)
      have h2 := hn a ((hlm a).1 ha)
      rw [show a = b by omega]
end Go.Proofs.YtlhpbfjelgmkeaaGreat
