/- Contract of the reference's ranked: the greatest first, of several alike the lesser id. Conditions: counters whose ids rise. -/
import Derived.Test.YtkmonecolkamjaaRHeavyPut
set_option maxRecDepth 100000
namespace Go.Proofs.Ytkmonecolkamjaa
open Go.RowKit Go.Maps Go.Sort

theorem rank_ins {L A : CL} {m k : Nat} {x : Int × Int} (hA : Asc L) (hR : Ranked (L.take m) A) (hx : L[m]? = some x) (h1 : ∀ y ∈ A.drop k, y.2 < x.2) (h2 : ∀ y ∈ A.take k, x.2 ≤ y.2) : Ranked (L.take (m + 1)) (A.take k ++ x :: A.drop k) := by
  obtain ⟨hm, e⟩ := List.getElem?_eq_some_iff.1 hx
  have hord : (A.take k ++ A.drop k).Pairwise fun x y => ltTop y x = false := by rw [List.take_append_drop]; exact hR.order
  obtain ⟨o1, o2, o3⟩ := List.pairwise_append.1 hord
  have hlo : ∀ y ∈ L.take m, y.1 < x.1 := fun y hy => by
    obtain ⟨i, hi, rfl⟩ := List.mem_iff_getElem.1 hy
    rw [List.getElem_take, ← e]
    exact List.pairwise_iff_getElem.1 hA i m (by simp at hi; omega) hm (by simp at hi; omega)
  refine ⟨?_, ?_⟩
  · rw [List.take_succ_eq_append_getElem hm, e]
    refine List.perm_middle.trans ?_
    rw [List.take_append_drop]
    exact (hR.perm.cons x).trans (List.perm_append_comm (l₁ := [x]))
  · refine List.pairwise_append.2 ⟨o1, List.pairwise_cons.2 ⟨fun y hy => ?_, o2⟩, fun a ha b hb => ?_⟩
    · have := h1 y hy
      rw [ltTop_no]; omega
    · rcases List.mem_cons.1 hb with rfl | hb
      · have g1 := h2 a ha
        have g2 := hlo a (hR.perm.mem_iff.1 (List.mem_of_mem_take ha))
        rw [ltTop_no]; omega
      · exact o3 a ha b hb
theorem rank_stop {L A : CL} {m k : Nat} {c : Int} {q : Int × Int} (hR : Ranked (L.take m) A) (hq : A[k]? = some q) (hc : c ≤ q.2) : ∀ y ∈ A.take (k + 1), c ≤ y.2 := fun y hy => by
  obtain ⟨hk, e⟩ := List.getElem?_eq_some_iff.1 hq
  obtain ⟨i, hi, rfl⟩ := List.mem_iff_getElem.1 hy
  rw [List.getElem_take]
  simp at hi
  rcases Nat.lt_or_ge i k with g | g
  · have := List.pairwise_iff_getElem.1 hR.order i k (by omega) hk g
    rw [e, ltTop_no] at this
    omega
  · obtain rfl : i = k := by omega
    rw [e]; exact hc
/-- the row while x goes down: place k is free -/
def gap (A : CL) (k : Nat) (y : Int × Int) : CL := A.take k ++ y :: A.drop k
theorem gap_len (A : CL) {k : Nat} (h : k ≤ A.length) (y : Int × Int) : (gap A k y).length = A.length + 1 := by
  unfold gap
  rw [List.length_append, List.length_cons, List.length_take, List.length_drop]; omega
theorem gap_end (A : CL) (y : Int × Int) : gap A A.length y = A ++ [y] := by simp [gap]
theorem gap_set (A : CL) {k : Nat} (h : k ≤ A.length) (y z : Int × Int) : (gap A k y).set k z = gap A k z := by
  unfold gap
  rw [List.set_append_right _ _ (by simp; omega), show k - (A.take k).length = 0 by simp; omega]
  rfl
theorem gap_down (A : CL) {k : Nat} {q : Int × Int} (hq : A[k]? = some q) : gap A (k + 1) q = gap A k q := by
  obtain ⟨hk, e⟩ := List.getElem?_eq_some_iff.1 hq
  unfold gap
  rw [List.take_succ_eq_append_getElem hk, List.drop_eq_getElem_cons hk, e]
  simp
theorem gap_at (A : CL) {k : Nat} {q : Int × Int} (hq : A[k]? = some q) (y : Int × Int) : (gap A (k + 1) y)[k]? = some q := by
  obtain ⟨hk, e⟩ := List.getElem?_eq_some_iff.1 hq
  unfold gap
  rw [List.getElem?_append_left (by simp; omega), List.getElem?_take, if_pos (by omega), hq]

theorem flatP_set (L : CL) (k : Nat) (z : Int × Int) : ((flatP L).set (k * 2) (.int .i64 z.1)).set (k * 2 + 1) (.int .i64 z.2) = flatP (L.set k z) := by
  induction L generalizing k with
  | nil => rfl
  | cons p r ih =>
    cases k with
    | zero => simp [flatP, encP]
    | succ k =>
      have := ih k
      unfold flatP at this ⊢
      rw [List.set_cons_succ, List.flatMap_cons, List.flatMap_cons, ← this, show (k + 1) * 2 = k * 2 + 2 by omega, show k * 2 + 2 + 1 = (k * 2 + 1) + 2 by omega]
      rfl
theorem OwnC.put {w W : World} {L : CL} {g n c : Nat} (h : OwnC w L (.slice (some ⟨g, 0, none⟩) n c) W) (k : Nat) (z : Int × Int) :
    OwnC w (L.set k z) (.slice (some ⟨g, 0, none⟩) n c) ((W.setCell ⟨g, k * 2, none⟩ (.int .i64 z.1)).setCell ⟨g, k * 2 + 1, none⟩ (.int .i64 z.2)) := by
  have hn : n = L.length := by
    rcases h.1.form with ⟨e, _⟩ | ⟨g', c', e, _⟩
    · cases e
    · cases e; rfl
  subst hn
  have hg : w.heap.size ≤ g := ownsRow_ge h.1 g rfl
  have h1 := (World.ownsRow.stored h.1 (k * 2) (.int .i64 z.1)).1
  have h2 := (World.ownsRow.stored h1 (k * 2 + 1) (.int .i64 z.2)).1
  rw [flatP_set] at h2
  refine ⟨?_, (h.2.setCell hg _).setCell hg _⟩
  unfold RowC
  rw [List.length_set]
  exact h2

theorem OwnC.drewN {w W : World} {L : CL} {v : Value} (h : OwnC w L v W) (n : Nat) : OwnC w L v (W.drewN n) := ⟨h.1, below_dN h.2 n⟩

/-- a row of the greatest first, of the call's own -/
def RankAt (w : World) (L : CL) (e : Ending) (w' : World) : Prop := ∃ R v, e = .returned v ∧ Ranked L R ∧ OwnC w R v w'

set_option maxHeartbeats 6400000 in
theorem rranked_any {w : World} {B : Nat} {v : Value} {L : CL} (h : RowC B v L w) (hA : Asc L) (hl : L.length ≤ 100000) :
    Calls Try.prog 31 #[v] w (RankAt w L) := by
  have HR := Lib.hid h
  have HA := Lib.hid hA
  obtain ⟨a, c, rfl, _, _⟩ := h.form2
  obtain ⟨N, hN⟩ : ∃ N, L.length = N := ⟨_, rfl⟩
  have HN := Lib.hid hN
  have hNz : (N : Int) ≤ 100000 := by omega
  rw [hN] at HR ⊢
  clear h hA hl hN
  go_enter Try.func31, Try.ntmps31
  go_wp2_with fail
  go_loopw [3, 9] (fun o s wr => ∃ (k : Nat) (oa : Option Addr) (oc : Nat), s = .int .i64 k ∧ k ≤ N ∧ o = .slice oa k oc ∧ Hid (∃ A, A.length = k ∧ Ranked (L.take k) A ∧ OwnC w A (.slice oa k oc) wr)) (fun _ s _ => N - (intOf s).toNat)
  case atStart => exact ⟨0, none, 0, rfl, Nat.zero_le _, rfl, [], rfl, ⟨by simp, List.Pairwise.nil⟩, RowC.nil _ _, Below.refl _ _⟩
  case round =>
    obtain ⟨k, oa, oc, rfl, hk, rfl, HX⟩ := hrel
    obtain ⟨A, hal, hR, hO⟩ := HX.out
    have HRA := Lib.hid hR
    by_cases hlt : k < N
    · have hz : (k : Int) < (N : Int) := by omega
      have hkl : k < L.length := by rw [HN.out]; exact hlt
      obtain ⟨g, c', q, e, hq, r0, r1⟩ := row_at HR.out hO.2 hkl
      cases e
      have HQ := Lib.hid hq
      have HO1 := hO.alloc (.cells #[.int .i64 q.1, .int .i64 q.2] 70)
      obtain ⟨gb, oc2, w', hrun, hO2, hgr, hgw⟩ := HO1.push q.1 q.2 (by omega)
      obtain ⟨G, hG⟩ : ∃ G, wr.heap.size = G := ⟨_, rfl⟩
      have hgo : ∀ y, (Value.slice oa k oc).ownBlock = some y → y < G := fun y hy => by rw [← hG]; exact (hO.1.lt y hy).2
      have hbl : w'.heap[G]? = some (.cells #[.int .i64 q.1, .int .i64 q.2] 70 (0, 0)) := by
        rw [hgr.block G (by simp; omega) (fun e => by have := hgo G e.symm; omega), ← hG]
        exact heap_alloc_new wr _
      have hgb : gb ≠ G := by
        rcases hgw with e | e
        · have := hgo gb e; omega
        · simp at e; omega
      simp only [World.size_alloc] at hrun
      have HR1 := Lib.hid hrun
      have HO2 : Hid (OwnC w (gap A k q) (.slice (some ⟨gb, 0, none⟩) (k + 1) oc2) w') := Lib.hid (by
        rw [hal] at hO2
        rw [show gap A k q = A ++ [q] by rw [← hal]; exact gap_end A q]
        exact hO2)
      rw [hal] at HR1
      have HBL := Lib.hid hbl
      have HAL := Lib.hid hal
      have hk10 : k ≤ 100000 := by omega
      rw [hG] at HR1
      clear hrun hO2 HO1 HX hR hO hq hkl hgr hbl hgw hgo hal
      go_wp2_with (at_builtin; refine wpList_append_run rfl _ _ 63 rfl rfl rfl (HR1.out _) ?_)
      clear r0 r1 HR1
      go_loopw [6] (fun s wq => ∃ j : Nat, s = .int .i64 j ∧ j ≤ k ∧ Hid ((∃ y, OwnC w (gap A j y) (.slice (some ⟨gb, 0, none⟩) (k + 1) oc2) wq) ∧ wq.heap[G]? = some (.cells #[.int .i64 q.1, .int .i64 q.2] 70 (0, 0)) ∧ ∀ z ∈ A.drop j, z.2 < q.2)) (fun s _ => (intOf s).toNat)
      case atStart => exact ⟨k, rfl, Nat.le_refl _, ⟨_, HO2.out⟩, HBL.out, fun z hz => by rw [← HAL.out] at hz; simp at hz⟩
      case round =>
        clear HO2 HBL
        obtain ⟨j, rfl, hj, HX⟩ := hrel
        obtain ⟨⟨y, hO⟩, hbl, hlow⟩ := HX.out
        have z0 : wr.cell? ⟨G, 0, none⟩ = some (.int .i64 q.1) := by rw [cell_of_row _ _ _ _ _ _ hbl]; rfl
        have z1 : wr.cell? ⟨G, 1, none⟩ = some (.int .i64 q.2) := by rw [cell_of_row _ _ _ _ _ _ hbl]; rfl
        have HO := Lib.hid hO
        have HB := Lib.hid hbl
        have HLOW := Lib.hid hlow
        have hgl : (gap A j y).length = k + 1 := by rw [gap_len A (by rw [HAL.out]; exact hj), HAL.out]
        have hgap := hO.1.rowP
        obtain ⟨old, hold⟩ : ∃ o, (gap A j y)[j]? = some o := ⟨_, List.getElem?_eq_getElem (by rw [hgl]; omega)⟩
        obtain ⟨s0, s1, f0, f1⟩ := hgap.cell hold
        clear hold hgl
        by_cases hst : 0 < j ∧ ∃ p, A[j - 1]? = some p ∧ p.2 < q.2
        · obtain ⟨hj0, p, hp, hpq⟩ := hst
          obtain ⟨J, hJ⟩ : ∃ J, j = J + 1 := ⟨j - 1, by omega⟩
          rw [show j - 1 = J by omega] at hp
          obtain ⟨g0, g1, _, _⟩ := hgap.cell (show (gap A j y)[J]? = some p by rw [hJ]; exact gap_at A hp y)
          have hO3 := fun nq => (hO.drewN nq).put j p
          simp only [gap_set A (show j ≤ A.length by rw [HAL.out]; exact hj), show gap A j p = gap A J p by rw [hJ]; exact gap_down A hp] at hO3
          have HO3 : Hid (∀ nq, (∃ y, OwnC w (gap A J y) (.slice (some ⟨gb, 0, none⟩) (k + 1) oc2) (((wr.drewN nq).setCell ⟨gb, j * 2, none⟩ (.int .i64 p.1)).setCell ⟨gb, j * 2 + 1, none⟩ (.int .i64 p.2))) ∧ (((wr.drewN nq).setCell ⟨gb, j * 2, none⟩ (.int .i64 p.1)).setCell ⟨gb, j * 2 + 1, none⟩ (.int .i64 p.2)).heap[G]? = some (.cells #[.int .i64 q.1, .int .i64 q.2] 70 (0, 0)) ∧ ∀ z ∈ A.drop J, z.2 < q.2) := Lib.hid fun nq => ⟨⟨p, hO3 nq⟩, by
              rw [Below.heap_setCell _ _ _ _ (by exact fun e => hgb e.symm), Below.heap_setCell _ _ _ _ (by exact fun e => hgb e.symm)]; exact hbl, fun z hz => by
              obtain ⟨hk, e⟩ := List.getElem?_eq_some_iff.1 hp
              rw [List.drop_eq_getElem_cons hk, e] at hz
              rcases List.mem_cons.1 hz with rfl | hz
              · exact hpq
              · exact hlow z (by rw [hJ]; exact hz)⟩
          have t1 : (0 : Int) < (j : Int) := by omega
          have t2 : decide (p.2 < q.2) = true := decide_eq_true hpq
          have wj : IntKind.i64.wrap ((j : Int) - 1) = (J : Int) := by rw [IntKind.wrap_i64]; omega
          have tj : (j : Int) - 1 = (J : Int) := by omega
          have b0 : (J : Int) < (k : Int) + 1 := by omega
          have b1 : (j : Int) < (k : Int) + 1 := by omega
          have HJ := Lib.hid hJ
          clear hO hbl hlow hgap HX HO HB HLOW hO3 hp hpq hJ
          go_wp2_with fail
          go_quiet (fail)
          go_wp2_with fail
          go_roundw
          case rel => exact ⟨J, by go_num, by have := HJ.out; omega, HO3.out nq⟩
          case measure => simp [intOf]; have := HJ.out; omega
        · have hstop : ∀ z ∈ A.take j, q.2 ≤ z.2 := by
            rcases Nat.eq_zero_or_pos j with h0 | h0
            · intro z hz; rw [h0] at hz; simp at hz
            · obtain ⟨p, hp⟩ : ∃ p, A[j - 1]? = some p := ⟨_, List.getElem?_eq_getElem (by rw [HAL.out]; omega)⟩
              have := rank_stop HRA.out hp (c := q.2) (by
                rcases Int.lt_or_le p.2 q.2 with g | g
                · exact absurd ⟨h0, p, hp, g⟩ hst
                · exact g)
              rwa [show j - 1 + 1 = j by omega] at this
          have hRN := rank_ins HA.out HRA.out HQ.out hlow hstop
          have hO3 := fun nq => (hO.drewN nq).put j q
          simp only [gap_set A (show j ≤ A.length by rw [HAL.out]; exact hj)] at hO3
          have HX3 : Hid (∀ nq, ∃ A', A'.length = k + 1 ∧ Ranked (L.take (k + 1)) A' ∧ OwnC w A' (.slice (some ⟨gb, 0, none⟩) (k + 1) oc2) (((wr.drewN nq).setCell ⟨gb, j * 2, none⟩ (.int .i64 q.1)).setCell ⟨gb, j * 2 + 1, none⟩ (.int .i64 q.2))) :=
            Lib.hid fun nq => ⟨gap A j q, by rw [gap_len A (by rw [HAL.out]; exact hj), HAL.out], hRN, hO3 nq⟩
          have b1 : (j : Int) < (k : Int) + 1 := by omega
          by_cases h0 : 0 < j
          · obtain ⟨p, hp⟩ : ∃ p, A[j - 1]? = some p := ⟨_, List.getElem?_eq_getElem (by rw [HAL.out]; omega)⟩
            have t2 : decide (p.2 < q.2) = false := decide_eq_false fun g => hst ⟨h0, p, hp, g⟩
            obtain ⟨J, hJ⟩ : ∃ J, j = J + 1 := ⟨j - 1, by omega⟩
            rw [show j - 1 = J by omega] at hp
            obtain ⟨g0, g1, _, _⟩ := hgap.cell (show (gap A j y)[J]? = some p by rw [hJ]; exact gap_at A hp y)
            have t1 : (0 : Int) < (j : Int) := by omega
            have wj : IntKind.i64.wrap ((j : Int) - 1) = (J : Int) := by rw [IntKind.wrap_i64]; omega
            have tj : (j : Int) - 1 = (J : Int) := by omega
            have b0 : (J : Int) < (k : Int) + 1 := by omega
            clear hO hbl hlow hgap HX HO HB HLOW hO3 hp hJ hst hstop hRN
            go_wp2_with fail
            go_quiet (fail)
            go_wp2_with fail
            go_roundw
            case rel => exact ⟨k + 1, _, _, by go_num, by omega, rfl, HX3.out nq⟩
            case measure => simp [intOf]; omega
          · have t1 : decide (0 < j) = false := decide_eq_false h0
            clear hO hbl hlow hgap HX HO HB HLOW hO3 hst hstop hRN
            go_wp2_with fail
            go_quiet (fail)
            go_wp2_with fail
            go_roundw
            case rel => exact ⟨k + 1, _, _, by go_num, by omega, rfl, HX3.out nq⟩
            case measure => simp [intOf]; omega
    · have e : k = L.length := by have := HN.out; omega
      rw [e, List.take_length] at hR
      have FIN : Hid (RankAt w L (.returned (.slice oa k oc)) wr) := Lib.hid ⟨A, _, rfl, hR, hO⟩
      clear HX hR hO HRA hal e
      go_wp2_with fail
      go_ret
      exact FIN.out
end Go.Proofs.Ytkmonecolkamjaa
