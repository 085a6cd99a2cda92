/- Contract of the reference's add: a counter so much more. Conditions: a sketch that was made, sums that fit. -/
import Derived.Test.YtkmonecolkamjaaRHeavyAdd
import Derived.Laws.NewBlocks
set_option maxRecDepth 100000
namespace Go.Proofs.Ytkmonecolkamjaa
open Go.RowKit Go.Maps Go.Sort

theorem asc_addP {a : CL} (h : Asc a) (p : Int × Int) : Asc (addP a p) := asc_putL h _ _
theorem inI_addP {a : CL} (h : ∀ q ∈ a, InI q.1 ∧ InI q.2) {p : Int × Int} (h1 : InI p.1) (h2 : InI (cnt a p.1 + p.2)) : ∀ q ∈ addP a p, InI q.1 ∧ InI q.2 := fun q hq => by
  rcases putL_sub hq with rfl | hq
  · exact ⟨h1, h2⟩
  · exact h q hq

set_option maxHeartbeats 6400000 in
theorem radd_any {T : Tags} {i : Nat} {w : World} {p m n : Nat} {v : Value} {L : CL} (h : RkAt T i w p m n v L) (x y : Int) (hx : InI x) (hy : InI y) (hz : ∀ q ∈ L, InI (q.2 + y)) (hl : L.length ≤ 100000) :
    Calls Try.prog 30 #[.pointer (some ⟨p, 0, none⟩), .agg #[.int .i64 x, .int .i64 y]] w fun e w' => e = .returned (.tuple #[]) ∧ Hid (Goes T i w (RL p m n (addP L (x, y))) w') := by
  obtain ⟨a, c, rfl, _, _⟩ := h.row.form2
  obtain ⟨N, hN⟩ : ∃ N, L.length = N := ⟨_, rfl⟩
  obtain ⟨G, hG⟩ : ∃ G, w.heap.size = G := ⟨_, rfl⟩
  have hb0 : Below w.heap.size w (w.alloc (.cells #[.int .i64 x, .int .i64 y] 70)) := (Below.refl _ w).alloc (Nat.le_refl _) _
  obtain ⟨W0, hW0⟩ : ∃ W0, w.alloc (.cells #[.int .i64 x, .int .i64 y] 70) = W0 := ⟨_, rfl⟩
  have b0 : W0.cell? ⟨G, 0, none⟩ = some (.int .i64 x) := by rw [← hW0, ← hG, cell_of_row _ _ _ _ _ _ (heap_alloc_new w _)]; rfl
  have b1 : W0.cell? ⟨G, 1, none⟩ = some (.int .i64 y) := by rw [← hW0, ← hG, cell_of_row _ _ _ _ _ _ (heap_alloc_new w _)]; rfl
  have hGs : G < W0.heap.size := by rw [← hW0]; simp; omega
  rw [hW0] at hb0
  have hh0 := h.below hb0
  obtain ⟨_, c1, _, f0⟩ := hh0.cells
  have f1 := f0 1
  have HB0 := Lib.hid hb0
  have HH := Lib.hid (And.intro h hh0)
  rw [hN] at c1 HH
  have HN := Lib.hid hN
  have HZ := Lib.hid hz
  have HGS := Lib.hid hGs
  have hNz : (N : Int) ≤ 100000 := by omega
  have HC := Lib.hid (addC_len (x, y) false L)
  have HL : Hid (Asc (addC (x, y) false L) ∧ (∀ q ∈ addC (x, y) false L, InI q.1 ∧ InI q.2) ∧ addC (x, y) false L = addP L (x, y)) := Lib.hid (by
    rw [addC_false _ _ h.asc]
    refine ⟨asc_addP h.asc _, inI_addP h.inI hx ?_, rfl⟩
    by_cases e : cnt L x = 0
    · show InI (cnt L x + y)
      rw [e, Int.zero_add]; exact hy
    · exact hz _ (mem_of_cnt e))
  have KX := Lib.hid (And.intro b0 b1)
  clear h hh0 hb0 hz hl hN hx hy f0 hGs
  go_enter Try.func30, Try.ntmps30
  go_wp2_with fail
  clear hW0 hG b0 b1
  go_loopw [4, 5, 13] (fun o dn s wr => ∃ (k : Nat) (d : Bool), s = .int .i64 k ∧ k ≤ N ∧ dn = .bool d ∧ Hid (∃ xs, OwnC W0 xs o wr ∧ xs ++ addC (x, y) d (L.drop k) = addC (x, y) false L)) (fun _ _ s _ => N - (intOf s).toNat)
  case atStart => exact ⟨0, false, rfl, Nat.zero_le _, rfl, [], ⟨RowC.nil _ _, Below.refl _ _⟩, by simp⟩
  case round =>
    obtain ⟨k, d, rfl, hk, rfl, HX⟩ := hrel
    obtain ⟨xs, hO, hE⟩ := HX.out
    have hxl : xs.length ≤ 300000 := by
      have h1 := congrArg List.length hE
      have h2 := HC.out
      have h3 := HN.out
      rw [List.length_append] at h1
      omega
    have HO := Lib.hid hO
    have HE := Lib.hid hE
    have e0 : wr.cell? ⟨G, 0, none⟩ = some (.int .i64 x) := by rw [hO.2.cell (World.block_lt_of_cell? W0 _ KX.out.1)]; exact KX.out.1
    have e1 : wr.cell? ⟨G, 1, none⟩ = some (.int .i64 y) := by rw [hO.2.cell (World.block_lt_of_cell? W0 _ KX.out.2)]; exact KX.out.2
    clear HX hE
    by_cases hlt : k < N
    · have hz : (k : Int) < (N : Int) := by omega
      have hkl : k < L.length := by rw [HN.out]; exact hlt
      obtain ⟨g, c', q, e, hq, r0, r1⟩ := row_at HH.out.2.row hO.2 hkl
      cases e
      have hql := HZ.out q (List.mem_of_getElem? hq)
      have hE2 := HE.out
      rw [addC_drop (x, y) d L hq] at hE2
      simp only at hE2
      have HE2 := Lib.hid hE2
      have HO1 := Lib.hid (HO.out.alloc (.cells #[.int .i64 q.1, .int .i64 q.2] 70))
      have hGn : G < wr.heap.size := World.block_lt_of_cell? wr _ e0
      clear hq hkl hE2 HE
      by_cases hid : q.1 = x
      · have t1 : (q.1 == x) = true := by simpa using hid
        have wk : IntKind.i64.wrap (q.2 + y) = q.2 + y := by rw [IntKind.wrap_i64]; unfold InI at hql; omega
        have hE3 := HE2.out
        rw [if_pos hid] at hE3
        obtain ⟨g', k', w', hrun, hO2, _, _⟩ := (HO.out.alloc (.cells #[.int .i64 q.1, .int .i64 (q.2 + y)] 70)).push q.1 (q.2 + y) (by omega)
        simp only [World.size_alloc] at hrun
        have HR1 := Lib.hid hrun
        have HX2 : Hid (∃ ys, OwnC W0 ys (.slice (some ⟨g', 0, none⟩) (xs.length + 1) k') w' ∧ ys ++ addC (x, y) true (L.drop (k + 1)) = addC (x, y) false L) := Lib.hid ⟨_, hO2, by rw [List.append_assoc]; exact hE3⟩
        clear hrun hO2 HO1 HO HE2 hE3 hql hO hid
        go_wp2_with (at_builtin; refine wpList_append_run rfl _ _ 63 rfl rfl rfl (HR1.out _) ?_)
        go_roundw
        case rel => exact ⟨k + 1, true, by go_num, by omega, rfl, HX2⟩
        case measure => simp [intOf]; omega
      · have t1 : (q.1 == x) = false := by simpa using hid
        have hE3 := HE2.out
        rw [if_neg hid] at hE3
        by_cases hc : d = false ∧ x < q.1
        · obtain ⟨rfl, hc⟩ := hc
          have t2 : decide (x < q.1) = true := decide_eq_true hc
          rw [t2] at hE3
          obtain ⟨g1, k1, w1, hrun1, hO2, hgr, _⟩ := HO1.out.push x y (by omega)
          have hgo : ∀ y, u4.ownBlock = some y → y < wr.heap.size := fun y hy => (hO.1.lt y hy).2
          have hbl : w1.heap[wr.heap.size]? = some (.cells #[.int .i64 q.1, .int .i64 q.2] 70 (0, 0)) := by
            rw [hgr.block wr.heap.size (by simp) (fun e => by have := hgo _ e.symm; omega)]
            exact heap_alloc_new wr _
          have z0 : w1.cell? ⟨wr.heap.size, 0, none⟩ = some (.int .i64 q.1) := by rw [cell_of_row _ _ _ _ _ _ hbl]; rfl
          have z1 : w1.cell? ⟨wr.heap.size, 1, none⟩ = some (.int .i64 q.2) := by rw [cell_of_row _ _ _ _ _ _ hbl]; rfl
          obtain ⟨g2, k2, w2, hrun2, hO3, _, _⟩ := hO2.push q.1 q.2 (by simp; omega)
          simp only [World.size_alloc, List.length_append, List.length_cons, List.length_nil, Nat.zero_add] at hrun1 hrun2 hO3
          have HR1 := Lib.hid hrun1
          have HR2 := Lib.hid hrun2
          have HX2 : Hid (∃ ys, OwnC W0 ys (.slice (some ⟨g2, 0, none⟩) (xs.length + 1 + 1) k2) w2 ∧ ys ++ addC (x, y) true (L.drop (k + 1)) = addC (x, y) false L) := Lib.hid ⟨_, hO3, by simpa using hE3⟩
          clear hrun1 hrun2 hO2 hO3 HO1 HO HE2 hE3 hql hO hid hgr hgo hbl hc
          go_wp2_with (first
            | (at_builtin; refine wpList_append_run rfl _ _ 63 rfl rfl rfl (HR1.out _) ?_)
            | (at_builtin; refine wpList_append_run rfl _ _ 63 rfl rfl rfl (HR2.out _) ?_))
          go_roundw
          case rel => exact ⟨k + 1, true, by go_num, by omega, rfl, HX2⟩
          case measure => simp [intOf]; omega
        · have hd : (!d && decide (x < q.1)) = false ∧ (d || decide (x < q.1)) = d := by
            cases d with
            | true => simp
            | false =>
              have : ¬ x < q.1 := fun h => hc ⟨rfl, h⟩
              simp; omega
          rw [hd.1, hd.2] at hE3
          obtain ⟨g1, k1, w1, hrun1, hO2, _, _⟩ := HO1.out.push q.1 q.2 (by omega)
          simp only [World.size_alloc] at hrun1
          have HR1 := Lib.hid hrun1
          have HX2 : Hid (∃ ys, OwnC W0 ys (.slice (some ⟨g1, 0, none⟩) (xs.length + 1) k1) w1 ∧ ys ++ addC (x, y) d (L.drop (k + 1)) = addC (x, y) false L) := Lib.hid ⟨_, hO2, by simpa using hE3⟩
          clear hrun1 hO2 HO1 HO HE2 hE3 hql hO hid hd
          cases d with
          | true =>
            clear hc
            go_wp2_with (at_builtin; refine wpList_append_run rfl _ _ 63 rfl rfl rfl (HR1.out _) ?_)
            go_roundw
            case rel => exact ⟨k + 1, true, by go_num, by omega, rfl, HX2⟩
            case measure => simp [intOf]; omega
          | false =>
            have t2 : decide (x < q.1) = false := decide_eq_false fun h => hc ⟨rfl, h⟩
            clear hc
            go_wp2_with (at_builtin; refine wpList_append_run rfl _ _ 63 rfl rfl rfl (HR1.out _) ?_)
            go_roundw
            case rel => exact ⟨k + 1, false, by go_num, by omega, rfl, HX2⟩
            case measure => simp [intOf]; omega
    · obtain rfl : k = N := by omega
      have e := HE.out
      rw [← HN.out, List.drop_length] at e
      have cc : ∀ W, Below W0.heap.size W0 W → W.cell? ⟨p, 1, none⟩ = some (.slice a k c) ∧ W.frozen? ⟨p, 1, none⟩ = false := fun W hb => ⟨by rw [hb.cell (World.block_lt_of_cell? W0 _ c1)]; exact c1, by rw [hb.frozen (World.block_lt_of_cell? W0 _ c1)]; exact f1⟩
      cases d with
      | true =>
        obtain ⟨xa, xc, rfl, _, _⟩ := hO.1.form2
        have e2 : xs = addC (x, y) false L := by rw [← e]; simp [addC]
        have FIN : Hid (Goes T i w (RL p m n (addP L (x, y))) (wr.setCell ⟨p, 1, none⟩ (.slice xa xs.length xc))) := Lib.hid (by
          rw [← HL.out.2.2]
          exact HH.out.1.put HB0.out (e2 ▸ HO.out) HL.out.1 HL.out.2.1)
        obtain ⟨d1, d2⟩ := cc wr hO.2
        clear HO HE hO e e2 c1 f1 cc e0 e1
        go_wp2_with fail
        go_end0
        exact ⟨rfl, FIN⟩
      | false =>
        have e2 : xs ++ [(x, y)] = addC (x, y) false L := by rw [← e]; simp [addC]
        obtain ⟨g1, k1, w1, hrun1, hO2, _, _⟩ := HO.out.push x y (by omega)
        have HR1 := Lib.hid hrun1
        have FIN : Hid (Goes T i w (RL p m n (addP L (x, y))) (w1.setCell ⟨p, 1, none⟩ (.slice (some ⟨g1, 0, none⟩) (xs.length + 1) k1))) := Lib.hid (by
          rw [← HL.out.2.2]
          exact HH.out.1.put HB0.out (e2 ▸ hO2) HL.out.1 HL.out.2.1)
        obtain ⟨d1, d2⟩ := cc w1 hO2.2
        clear HO HE hO e e2 c1 f1 cc hrun1 hO2
        go_wp2_with (at_builtin; refine wpList_append_run rfl _ _ 63 rfl rfl rfl (HR1.out _) ?_)
        go_end0
        exact ⟨rfl, FIN⟩
end Go.Proofs.Ytkmonecolkamjaa
