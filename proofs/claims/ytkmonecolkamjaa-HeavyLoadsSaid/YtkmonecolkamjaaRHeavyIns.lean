/- Contract of the reference's Insert: a number more. Conditions: a sketch that was made. -/
import Derived.Test.YtkmonecolkamjaaRHeavyRank
import Derived.Test.YtkmonecolkamjaaSched2
set_option maxRecDepth 100000
namespace Go.Proofs.Ytkmonecolkamjaa
open Go.RowKit Go.Maps Go.Sort

theorem rins_full {T : Tags} {i : Nat} {w : World} {p m n : Nat} {v : Value} {L : CL} (h : RkAt T i w p m n v L) (hn : n = 1125899906842624) (id : Int) :
    Calls Try.prog 13 #[.pointer (some ⟨p, 0, none⟩), .int .i64 id] w fun e w' => e = .returned (.tuple #[]) ∧ w = w' := by
  obtain ⟨c0, c1, c2, _⟩ := h.cells
  have t1 : decide ((1125899906842624 : Int) ≤ (n : Int)) = true := decide_eq_true (by omega)
  clear h hn c0 c1
  go_enter Try.func13, Try.ntmps13
  go_wp2_with fail
  refine bodyPost_ret (results_none rfl _ _ _) rfl ?_
  exact ⟨rfl, rfl⟩

set_option maxHeartbeats 6400000 in
theorem rins_new {T : Tags} {i : Nat} {w : World} {p m n : Nat} {v : Value} {L : CL} (h : RkAt T i w p m n v L) (hn : n < 1125899906842624) {id : Int} (hid : InI id) (hm : m ≤ 64) (hl : L.length ≤ 1000) (hc : ∀ q ∈ L, 1 ≤ q.2 ∧ q.2 ≤ 2251799813685248) :
    Calls Try.prog 13 #[.pointer (some ⟨p, 0, none⟩), .int .i64 id] w fun e w' => e = .returned (.tuple #[]) ∧ Hid (Goes T i w (RL p m (n + 1) (if 0 < cnt L id ∨ L.length < m then putL id (cnt L id + 1) L else less 1 L)) w') := by
  obtain ⟨va, vc, rfl, _, _⟩ := h.row.form2
  obtain ⟨c0, c1, c2, f0⟩ := h.cells
  have f2 := f0 2
  have t1 : decide ((1125899906842624 : Int) ≤ (n : Int)) = false := decide_eq_false (by omega)
  have wn : IntKind.i64.wrap ((n : Int) + 1) = (n : Int) + 1 := by rw [IntKind.wrap_i64]; omega
  have h2 := h.set_n (n + 1)
  have g1 : Else (fun x => T x = some i) w (w.setCell ⟨p, 2, none⟩ (.int .i64 ((n + 1 : Nat) : Int))) := (Else.refl _ w).setCell (.inl h.tp) _
  have hW : w.setCell ⟨p, 2, none⟩ (.int .i64 ((n + 1 : Nat) : Int)) = w.setCell ⟨p, 2, none⟩ (.int .i64 ((n : Int) + 1)) := by simp
  rw [hW] at h2 g1
  have hfound : (∀ q ∈ L, q.1 ≠ id) ↔ ¬ 0 < cnt L id := by
    constructor
    · intro h; rw [cnt_none h]; omega
    · intro h q hq e
      obtain ⟨a, b⟩ := q
      simp only at e
      subst e
      have := hc _ hq
      rw [cnt_mem h2.asc hq] at h
      simp only at this; omega
  have HC := Lib.hid hc
  have HI := Lib.hid hid
  have HL := Lib.hid (And.intro hl hm)
  obtain ⟨N, hN⟩ : ∃ N, L.length = N := ⟨_, rfl⟩
  rw [hN] at h2 c1 ⊢
  have HN := Lib.hid hN
  have hNz : (N : Int) ≤ 1000 := by omega
  clear h hc hid hl hm hn f0 hN
  go_enter Try.func13, Try.ntmps13
  go_wp2_with fail
  obtain ⟨W, hWW⟩ : ∃ W, w.setCell ⟨p, 2, none⟩ (.int .i64 ((n : Int) + 1)) = W := ⟨_, rfl⟩
  rw [hWW] at h2 g1 ⊢
  clear hW hWW c0 c1 c2 f2 wn t1
  have K0 := rfind_any (h2.below (below_drew1 W)) id (by have := HL.out.1; omega)
  have HH := Lib.hid h2
  have HG := Lib.hid g1
  have SC := Lib.hid fun W' (hb : Below W.heap.size W W') => (h2.below hb).cells
  by_cases hA : 0 < cnt L id
  · have KF : Calls Try.prog 28 #[.pointer (some ⟨p, 0, none⟩), .int .i64 id] W.drew fun e w' => ∃ z : Nat, e = .returned (.int .i64 (z : Int)) ∧ Below W.heap.size W w' :=
      K0.mono fun e w' ⟨h, hb⟩ => by
        rcases h with ⟨_, h⟩ | ⟨k, e1, _⟩
        · have := hfound.1 h; omega
        · exact ⟨k, e1, (below_drew1 W).trans hb⟩
    have S0 := SC.out W (Below.refl _ _)
    clear K0 h2 g1 hfound
    go_wp2_with fail
    refine wp_region_mix (fun W => W.cell? ⟨p, 0, none⟩ = some (.int .i64 m) ∧ W.cell? ⟨p, 1, none⟩ = some (.slice va N vc)) 16 [(true, 0), (true, 1), (false, 2), (true, 3), (true, 4), (true, 5), (true, 6), (true, 7), (true, 8), (true, 9), (true, 10), (true, 11), (true, 12), (true, 13), (true, 14), (false, 15)] (by kernel_rfl) (by decide +kernel) rfl (by decide +kernel) ⟨S0.1, S0.2.1⟩ ?_
    iterate 2
      refine wpMix_take (v := ?_) rfl rfl ?_ ?_
      rotate_left
      · (intro W hW; (try dsimp only at hW); go_simp) <;> with_reducible rfl
      simp only [Act.put, List.setIfInBounds_toArray, List.set_cons_zero, List.set_cons_succ]
    refine wpMix_run rfl ?_
    intro K hK
    go_wp2_with fail
    refine KF.mono ?_
    rintro e w2 ⟨z, rfl, hb⟩
    go_wp2_with fail
    refine hK.out _ _ (fun _ => ⟨(SC.out _ hb).1, (SC.out _ hb).2.1⟩) ?_
    clear hK K KF
    refine wpMix_take (v := .bool false) rfl rfl ?_ ?_
    · intro W hW
      go_simp
    simp only [Act.put, List.setIfInBounds_toArray, List.set_cons_zero, List.set_cons_succ]
    iterate 1
      refine wpMix_take (v := ?_) rfl rfl ?_ ?_
      rotate_left
      · (intro W hW; (try dsimp only at hW); go_simp) <;> with_reducible rfl
      simp only [Act.put, List.setIfInBounds_toArray, List.set_cons_zero, List.set_cons_succ]
    iterate 10
      refine wpMix_skip rfl rfl ?_
      simp only [Act.put, List.setIfInBounds_toArray, List.set_cons_zero, List.set_cons_succ]
    refine wpMix_run rfl ?_
    intro K hK
    go_wp2_with fail
    refine hK.out _ _ (fun _ => ⟨(SC.out _ hb).1, (SC.out _ hb).2.1⟩) ?_
    clear hK K
    refine wpMix_nil ?_
    have KA := radd_any (HH.out.below hb) id 1 HI.out (by unfold InI; omega) (fun q hq => by have := HC.out q hq; unfold InI; omega) (by have := HL.out.1; omega)
    have HB := Lib.hid hb
    clear hb S0
    go_wp2_with fail
    refine KA.mono ?_
    rintro e w3 ⟨rfl, H⟩
    have FIN : Hid (Goes T i w (RL p m (n + 1) (putL id (cnt L id + 1) L)) w3) := Lib.hid (by
      exact Goes.after (fun _ _ => rfl) (HG.out.low HB.out) H.out)
    clear KA H
    go_wp2_with fail
    go_end0
    exact ⟨rfl, FIN⟩
  · have KF : Calls Try.prog 28 #[.pointer (some ⟨p, 0, none⟩), .int .i64 id] W.drew fun e w' => e = .returned (.int .i64 (-1)) ∧ Below W.heap.size W w' :=
      K0.mono fun e w' ⟨h, hb⟩ => by
        rcases h with ⟨e1, _⟩ | ⟨k, _, q, hq, e⟩
        · exact ⟨e1, (below_drew1 W).trans hb⟩
        · exact absurd e (hfound.2 (by omega) q hq)
    have S0 := SC.out W (Below.refl _ _)
    clear K0 h2 g1 hfound
    go_wp2_with fail
    refine wp_region_mix (fun W => W.cell? ⟨p, 0, none⟩ = some (.int .i64 m) ∧ W.cell? ⟨p, 1, none⟩ = some (.slice va N vc)) 16 [(true, 0), (true, 1), (false, 2), (true, 3), (true, 4), (true, 5), (true, 6), (true, 7), (true, 8), (true, 9), (true, 10), (true, 11), (true, 12), (true, 13), (true, 14), (false, 15)] (by kernel_rfl) (by decide +kernel) rfl (by decide +kernel) ⟨S0.1, S0.2.1⟩ ?_
    iterate 2
      refine wpMix_take (v := ?_) rfl rfl ?_ ?_
      rotate_left
      · (intro W hW; (try dsimp only at hW); go_simp) <;> with_reducible rfl
      simp only [Act.put, List.setIfInBounds_toArray, List.set_cons_zero, List.set_cons_succ]
    refine wpMix_run rfl ?_
    intro K hK
    go_wp2_with fail
    refine KF.mono ?_
    rintro e w2 ⟨rfl, hb⟩
    go_wp2_with fail
    refine hK.out _ _ (fun _ => ⟨(SC.out _ hb).1, (SC.out _ hb).2.1⟩) ?_
    clear hK K KF
    iterate 12
      refine wpMix_take (v := ?_) rfl rfl ?_ ?_
      rotate_left
      · (intro W hW; (try dsimp only at hW); go_simp) <;> with_reducible rfl
      simp only [Act.put, List.setIfInBounds_toArray, List.set_cons_zero, List.set_cons_succ]
    refine wpMix_run rfl ?_
    intro K hK
    go_wp2_with fail
    refine hK.out _ _ (fun _ => ⟨(SC.out _ hb).1, (SC.out _ hb).2.1⟩) ?_
    clear hK K
    refine wpMix_nil ?_
    have HB := Lib.hid hb
    by_cases hB : N < m
    · have t3 : decide (m ≤ N) = false := decide_eq_false (by omega)
      have KA := radd_any (HH.out.below hb) id 1 HI.out (by unfold InI; omega) (fun q hq => by have := HC.out q hq; unfold InI; omega) (by have := HL.out.1; omega)
      clear hb S0
      go_wp2_with fail
      refine KA.mono ?_
      rintro e w3 ⟨rfl, H⟩
      have FIN : Hid (Goes T i w (RL p m (n + 1) (putL id (cnt L id + 1) L)) w3) := Lib.hid (by
        exact Goes.after (fun _ _ => rfl) (HG.out.low HB.out) H.out)
      clear KA H
      go_wp2_with fail
      go_end0
      exact ⟨rfl, FIN⟩
    · have t3 : decide (m ≤ N) = true := decide_eq_true (by omega)
      have KA := rless_any (HH.out.below hb) 1 (fun q hq => by have := HC.out q hq; unfold InI; omega) (by have := HL.out.1; omega)
      clear hb S0
      go_wp2_with fail
      refine KA.mono ?_
      rintro e w3 ⟨rfl, H⟩
      have FIN : Hid (Goes T i w (RL p m (n + 1) (less 1 L)) w3) := Lib.hid (by
        exact Goes.after (fun _ _ => rfl) (HG.out.low HB.out) H.out)
      clear KA H
      go_wp2_with fail
      refine bodyPost_ret (results_none rfl _ _ _) rfl ?_
      exact ⟨rfl, FIN⟩

theorem rins_any {T : Tags} {i : Nat} {w : World} {p : Nat} {V : HV} (h : RK p V T i w) {id : Int} (hid : InI id) :
    Calls Try.prog 13 #[.pointer (some ⟨p, 0, none⟩), .int .i64 id] w fun e w' => e = .returned (.tuple #[]) ∧ Goes T i w (RK p (V.ins id)) w' := by
  obtain ⟨⟨v, hk⟩, hG⟩ := h
  have hG' := hG.ins hk.asc id
  by_cases hn : V.n = 1125899906842624
  · refine (rins_full hk hn id).mono ?_
    rintro e w' ⟨rfl, rfl⟩
    refine ⟨rfl, Goes.start ?_⟩
    have e : V.ins id = V := by unfold HV.ins; rw [if_pos hn]
    rw [e]
    exact ⟨⟨v, hk⟩, hG⟩
  · refine (rins_new hk (by have := hG.n50; omega) hid hG.m64 (by have := hG.len; have := hG.m64; omega) (fun q hq => ?_)).mono ?_
    · have h1 := hG.pos q hq
      have h2 := le_total hG.pos q hq
      have h3 := hG.sum
      have h4 := hG.n50
      omega
    · rintro e w' ⟨rfl, H⟩
      refine ⟨rfl, H.out.map fun T' hb' => ⟨?_, hG'⟩⟩
      unfold HV.ins
      rw [if_neg hn]
      exact hb'
end Go.Proofs.Ytkmonecolkamjaa
