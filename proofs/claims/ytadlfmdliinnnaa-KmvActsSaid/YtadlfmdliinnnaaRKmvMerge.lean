/- Contract of the reference's Merge. Conditions: two sketches of one kind. -/
import Derived.Test.YtadlfmdliinnnaaRKmvIns
import Derived.Test.YtadlfmdliinnnaaKmvEq
import Derived.Test.YtadlfmdliinnnaaKmvMerged
set_option maxRecDepth 100000
namespace Go.Proofs.Ytadlfmdliinnnaa
open Go.RowKit Go.Maps Go.Sort

set_option maxHeartbeats 3200000 in
theorem rsame_walk {w : World} {p q : Nat} {a b : Addr} {n c d t : Nat} {S : List (Nat × Nat)} (p0 : w.cell? ⟨p, 0, none⟩ = some (.int .i64 t)) (p1 : w.cell? ⟨p, 1, none⟩ = some (.slice (some a) n c)) (q0 : w.cell? ⟨q, 0, none⟩ = some (.int .i64 t)) (q1 : w.cell? ⟨q, 1, none⟩ = some (.slice (some b) n d))
    (h : SeedsIn w a S) (g : SeedsIn w b S) (hn : S.length = n) (h7 : n ≤ 1000) :
    Calls Try.prog 38 #[.pointer (some ⟨p, 0, none⟩), .pointer (some ⟨q, 0, none⟩)] w (Draws (.bool true) w) := by
  have KN := fun W A B => neq_seed W A B
  have KG := fun W o x y A B A' B' => guard_seed W o x y A B A' B'
  have H := Lib.hid h
  have G := Lib.hid g
  have HN := Lib.hid hn
  have t0 : ((t : Int) != (t : Int)) = false := by simp
  have t1 : ((n : Int) != (n : Int)) = false := by simp
  clear h g hn
  go_enter Try.func38, Try.ntmps38
  go_wp2_with fail
  go_quiet (fail)
  go_wp2_with fail
  go_loopw [5, 33] (fun _ k wr => ∃ (m z : Nat), k = .int .i64 m ∧ m ≤ n ∧ wr = w.drewN z) (fun _ k _ => n - (intOf k).toNat)
  case atStart => exact ⟨0, _, rfl, Nat.zero_le _, rfl⟩
  case round =>
    obtain ⟨m, z, rfl, hm, rfl⟩ := hrel
    by_cases hlt : m < n
    · have hmS : m < S.length := by rw [HN.out]; exact hlt
      obtain ⟨d0, d1⟩ := H.out.read hmS
      obtain ⟨e0, e1⟩ := G.out.read hmS
      generalize S[m] = sd at *
      obtain ⟨A, B⟩ := sd
      have b0 : (0 : Int) ≤ (m : Int) := by omega
      have b1 : (m : Int) < (n : Int) := by omega
      go_wp2_with fail
      go_quiet (fail)
      go_wp2_with fail
      go_roundw
      case rel => exact ⟨m + 1, _, by go_num, by omega, rfl⟩
      case measure => simp [intOf]; omega
    · go_wp2_with fail
      go_ret
      exact ⟨rfl, _, rfl⟩
end Go.Proofs.Ytadlfmdliinnnaa
namespace Go.Proofs.Ytadlfmdliinnnaa
open Go.RowKit Go.Maps Go.Sort

/-- what is read of the other one -/
structure OthR (p : Nat) (U : SkV) (cb c : Nat) (cur : Array Value) (W : World) : Prop where
  c2 : W.cell? ⟨p, 2, none⟩ = some (.slice (some ⟨cb, 0, none⟩) U.L.length c)
  row : ∀ m, m < U.L.length → ∃ v, cur[m]? = some v ∧ W.cell? ⟨cb, m, none⟩ = some v ∧ Holds W v (nats (U.L.getD m []))
theorem RAt.oth {T : Tags} {i j : Nat} {w W : World} {p : Nat} {V : SkV} {sa : Addr} {sc cb c : Nat} {cur : Array Value} (h : RAt T j w p V sa sc cb c cur) (hij : i ≠ j) (he : Else (fun k => T k = some i) w W) : OthR p V cb c cur W := by
  have hne : ∀ k, T k = none → ¬ T k = some i := fun k h1 h2 => by rw [h1] at h2; cases h2
  have hb : ∀ k, k < w.heap.size → (T k = none ∨ T k = some j) → W.heap[k]? = w.heap[k]? := fun k hk hT => he.block k hk (fun h2 => by
    rcases hT with hT | hT
    · exact hne k hT h2
    · rw [hT] at h2; exact hij (Option.some.inj h2).symm)
  refine ⟨?_, fun m hm => ?_⟩
  · rw [World.cell?_of_block (w := w) (hb p (lt_of_heap h.head) (.inl h.tp))]
    exact h.cells.2.2
  · obtain ⟨v, hv, c3, _, ho, _⟩ := h.at_ hm
    have ho' : W.ownsRow 0 32 1 v V.L[m].length (nats V.L[m]) := ownsRow_of_block ho fun g hg => hb g (ho.lt g hg).2 (.inl (h.tr m v g hm hv hg))
    rw [getD_at hm]
    refine ⟨v, hv, ?_, Holds.of_row (by rw [nats_len]; exact ho')⟩
    rw [World.cell?_of_block (w := w) (hb cb (lt_of_heap h.tab) (.inr h.tc))]
    exact c3

/-- the state of Merge's rounds, with what the walk reads -/
def RMst (T : Tags) (i : Nat) (w : World) (p q cbq cq : Nat) (curq : Array Value) (V U : SkV) (m k : Nat) (W : World) : Prop := Goes T i w (RSk p (V.mpart U m k)) W ∧ OthR q U cbq cq curq W
theorem OthR.below {q cb c : Nat} {cur : Array Value} {U : SkV} {W W' : World} (h : OthR q U cb c cur W) (hb : Below W.heap.size W W') : OthR q U cb c cur W' := by
  have l : ∀ {a : Addr} {u}, W.cell? a = some u → W'.cell? a = some u := fun {a u} ha => by rw [hb.cell (World.block_lt_of_cell? W a ha)]; exact ha
  exact ⟨l h.c2, fun m hm => by
    obtain ⟨v, h0, h1, h2⟩ := h.row m hm
    exact ⟨v, h0, l h1, h2.below hb⟩⟩
/-- row m of the first one, as a round wants it -/
theorem RMst.at_ {T : Tags} {i j : Nat} {w W : World} {p q cbq cq : Nat} {curq : Array Value} {V U : SkV} {m k : Nat} (h : Goes T i w (RSk p (V.mpart U m k)) W) (hU : ∃ sa sc, RAt T j w q U sa sc cbq cq curq) (hij : i ≠ j) (hUG : U.Good) (hm : m < V.L.length) (hmU : m < U.L.length) (hk : k < (U.L.getD m []).length) :
    ∃ cb c a n kc l, W.cell? ⟨p, 0, none⟩ = some (.int .i64 V.t) ∧ W.cell? ⟨p, 2, none⟩ = some (.slice (some ⟨cb, 0, none⟩) V.L.length c) ∧ W.cell? ⟨cb, m, none⟩ = some (.slice a n kc) ∧ W.frozen? ⟨cb, m, none⟩ = false ∧
      Holds W (.slice a n kc) (nats l) ∧ Up l ∧ l.length ≤ V.t ∧ l.length = n ∧
      ∀ w1 v', Below W.heap.size W w1 → w1.ownsRow W.heap.size 32 1 v' (addL V.t ((U.L.getD m []).getD k 0) l).length (nats (addL V.t ((U.L.getD m []).getD k 0) l)) → RMst T i w p q cbq cq curq V U m (k + 1) (w1.setCell ⟨cb, m, none⟩ v') := by
  obtain ⟨T1, n1, e1, sa1, sc1, cb, c1, cur1, g1⟩ := h
  have hmL : m < (V.mpart U m k).L.length := by rw [SkV.mpart_len]; exact hm
  obtain ⟨c0, _, c2⟩ := g1.cells
  obtain ⟨v, hv, c3, f3, hown, hgl⟩ := g1.at_ hmL
  obtain ⟨a, kc, rfl, _, _⟩ := ownsRow_form hown
  rw [SkV.mpart_len] at c2
  have hx : (U.L.getD m []).getD k 0 < 2305843009213693951 := by
    have hg : GoodL U.t (U.L.getD m []) := by rw [getD_at hmU]; exact hUG.row _ (List.getElem_mem hmU)
    rw [getD_at hk]
    exact hg.lt _ (List.getElem_mem hk)
  refine ⟨cb, c1, a, _, kc, _, c0, c2, c3, f3, Holds.of_row (by rw [nats_len]; exact hown), hgl.up, hgl.len, rfl, fun w1 v' hb ho => ?_⟩
  have hp := g1.put (j := m) (l' := addL (V.mpart U m k).t ((U.L.getD m []).getD k 0) (V.mpart U m k).L[m]) hmL hb ho ⟨addL_up hgl.up, addL_len hgl.len, fun y hy => by
    rcases addL_mem hy with rfl | hy
    · exact hx
    · exact hgl.lt y hy⟩
  rw [SkV.mpart_next V U m k hk hmL] at hp
  have hG := Goes.after n1 e1 hp
  obtain ⟨sa, sc, hU⟩ := hU
  have hG' := hG
  obtain ⟨_, _, e2, _⟩ := hG'
  exact ⟨hG, hU.oth hij e2⟩

/-- what the walk of a round knows in a world -/
def MrgW (w : World) (p cb t N c m : Nat) (v : Value) (W : World) : Prop :=
  W.cell? ⟨p, 0, none⟩ = some (.int .i64 t) ∧ W.cell? ⟨p, 2, none⟩ = some (.slice (some ⟨cb, 0, none⟩) N c) ∧ W.cell? ⟨cb, m, none⟩ = some v ∧ W.frozen? ⟨cb, m, none⟩ = false ∧ Below w.heap.size w W
theorem MrgW.below {w W W' : World} {p cb t N c m : Nat} {v : Value} (h : MrgW w p cb t N c m v W) (hb : Below W.heap.size W W') : MrgW w p cb t N c m v W' := by
  obtain ⟨h1, h2, h3, h4, h7⟩ := h
  have l : ∀ {a : Addr} {u}, W.cell? a = some u → W'.cell? a = some u := fun {a u} ha => by rw [hb.cell (World.block_lt_of_cell? W a ha)]; exact ha
  exact ⟨l h1, l h2, l h3, by rw [hb.frozen (World.block_lt_of_cell? W _ h3)]; exact h4, h7.trans (hb.mono h7.size)⟩
theorem MrgW.s {w W : World} {p cb t N c m : Nat} {v : Value} (h : MrgW w p cb t N c m v W) : W.cell? ⟨p, 0, none⟩ = some (.int .i64 t) ∧ W.cell? ⟨p, 2, none⟩ = some (.slice (some ⟨cb, 0, none⟩) N c) ∧ W.cell? ⟨cb, m, none⟩ = some v := ⟨h.1, h.2.1, h.2.2.1⟩

set_option maxHeartbeats 6400000 in
theorem rmerge_two {T : Tags} {i j : Nat} {w : World} {p q : Nat} {V U : SkV} (h : RSk p V T i w) (g : RSk q U T j w) (hij : i ≠ j) (ht : U.t = V.t) (hS : U.seeds = V.seeds) :
    Calls Try.prog 17 #[.pointer (some ⟨p, 0, none⟩), .pointer (some ⟨q, 0, none⟩)] w fun e w' => e = .returned (.int .i64 0) ∧ Hid (Goes T i w (RSk p (V.merge U)) w') := by
  have h' := h
  obtain ⟨sa, sc, cb, c, cur, g1⟩ := h'
  obtain ⟨sb, sd, cbq, cq, curq, g2⟩ := g
  obtain ⟨p0, p1, p2⟩ := g1.cells
  obtain ⟨q0, q1, q2⟩ := g2.cells
  have hV := g1.good
  have hU := g2.good
  rw [ht] at q0
  rw [hS] at q1
  have KS := rsame_walk p0 p1 q0 q1 g1.seeds (hS ▸ g2.seeds) rfl (by have := hV.set.n7; omega)
  have hUl : U.L.length = V.L.length := by rw [hU.len, hS, hV.len]
  have hN7 : V.L.length ≤ 7 := by rw [hV.len]; exact hV.set.n7
  have HS : Hid (∀ n, RMst T i w p q cbq cq curq V U 0 0 (w.drewN n)) := Lib.hid (fun n => by
    have e0 : Goes T i w (RSk p (V.mpart U 0 0)) w := by rw [SkV.mpart_zero]; exact Goes.start h
    have e1 := e0.below (RSk.framed _ _) (below_drewN w n)
    refine ⟨e1, ?_⟩
    obtain ⟨_, _, e2, _⟩ := e1
    exact g2.oth hij e2)
  have HU := Lib.hid (show ∃ sa sc, RAt T j w q U sa sc cbq cq curq from ⟨_, _, g2⟩)
  have HUG := Lib.hid hU
  have HIJ := Lib.hid hij
  have HT64 := hV.set.t64
  have hUT := Lib.hid (fun m (hm : m < U.L.length) => show (U.L.getD m []).length ≤ 1000 by
    rw [getD_at hm]
    have := (hU.row _ (List.getElem_mem hm)).len
    have := hU.set.t64
    omega)
  have P2 := p2
  clear h g1 g2 hV hU hij ht hS q0 q1 q2 p0 p1
  generalize hN : V.L.length = N at *
  have HN := Lib.hid hN
  have HUL := Lib.hid hUl
  clear hN hUl P2
  go_enter Try.func17, Try.ntmps17
  go_wp2_with fail
  refine KS.mono ?_
  rintro e w1 ⟨rfl, z, rfl⟩
  clear KS
  go_wp2_with fail
  go_loopw [5, 21] (fun _ k wr => ∃ m : Nat, k = .int .i64 m ∧ m ≤ N ∧ Hid (RMst T i w p q cbq cq curq V U m 0 wr)) (fun _ k _ => N - (intOf k).toNat)
  case atStart => exact ⟨0, rfl, Nat.zero_le _, HS.out _⟩
  case round =>
    obtain ⟨m, rfl, hm, HR⟩ := hrel
    clear p2
    by_cases hlt : m < N
    · have hmV : m < V.L.length := by rw [HN.out]; exact hlt
      have hmU : m < U.L.length := by rw [HUL.out]; exact hlt
      have o2 := HR.out.2.c2
      obtain ⟨rv, hrv, o3, hH⟩ := HR.out.2.row m hmU
      obtain ⟨ra, rk, rfl, _⟩ := hH.form
      rw [HUL.out] at o2
      have hln := hUT.out m hmU
      have b0 : (0 : Int) ≤ (m : Int) := by omega
      have b1 : (m : Int) < (N : Int) := by omega
      have HROW := Lib.hid (fun W k (hW : Goes T i w (RSk p (V.mpart U m k)) W) (hk : k < (U.L.getD m []).length) => RMst.at_ hW HU.out HIJ.out HUG.out hmV hmU hk)
      have HDN := Lib.hid (SkV.mpart_done V U m)
      have HH := Lib.hid (fun W k (hW : RMst T i w p q cbq cq curq V U m k W) => show Holds W (.slice ra (nats (U.L.getD m [])).length rk) (nats (U.L.getD m [])) from by
        obtain ⟨v, h0, _, h2⟩ := hW.2.row m hmU
        rw [hrv] at h0
        rw [Option.some.inj h0]
        exact h2)
      have HU0 := Lib.hid HR.out
      rw [nats_len] at o3 HH
      clear HR hrv
      obtain ⟨lu, hlu⟩ : ∃ lu, lu = U.L.getD m [] := ⟨_, rfl⟩
      rw [← hlu] at o3 hln
      have HLU := Lib.hid hlu
      clear hH hlu
      generalize hn : lu.length = n at *
      have HNL := Lib.hid hn
      clear hn
      have HNL := HNL
      go_wp2_with fail
      go_loopw [7, 32] (fun _ k wq => ∃ r : Nat, k = .int .i64 r ∧ r ≤ n ∧ Hid (RMst T i w p q cbq cq curq V U m r wq)) (fun _ k _ => n - (intOf k).toNat)
      case atStart => exact ⟨0, rfl, Nat.zero_le _, HU0.out⟩
      case round =>
        obtain ⟨r, rfl, hr, HQ⟩ := hrel
        clear o2 o3
        by_cases hrn : r < n
        · have hrl : r < lu.length := by rw [HNL.out]; exact hrn
          have hH := HH.out _ _ HQ.out
          rw [← HLU.out] at hH
          have hHl := hH.len.1
          rw [nats_len, HNL.out] at hHl
          obtain ⟨ad, rfl⟩ := hH.ptr (by rw [HNL.out]; omega)
          have e0 := hH.cell (nats_getD hrl)
          obtain ⟨cb1, c1, a1, n1, k1, l1, c0, c2, c3, f3, hl1, hup, hlt1, hn1, hput⟩ := HROW.out _ _ HQ.out.1 (by rw [← HLU.out]; exact hrl)
          rw [HN.out] at c2
          have IB := Lib.hid (show MrgW wr p cb1 V.t N c1 m (.slice a1 n1 k1) wr.drew from MrgW.below ⟨c0, c2, c3, f3, Below.refl _ _⟩ (below_drew1 wr))
          rw [← HLU.out] at hput
          have KA := Lib.hid (fun W (hW : Below wr.heap.size wr W) => radd_any (w := W) (t := V.t) (h := lu.getD r 0) (hl1.below hW) hup (hn1 ▸ hlt1) hn1 (by omega))
          have HPT := Lib.hid hput
          generalize lu.getD r 0 = x at *
          have b2 : (0 : Int) ≤ (r : Int) := by omega
          have b3 : (r : Int) < (n : Int) := by omega
          clear hH hl1 hup hlt1 hn1 hput HQ c0 c2 c3 f3 hHl
          go_wp2_with fail
          refine wp_region_sched (fun W => W.cell? ⟨p, 0, none⟩ = some (.int .i64 V.t) ∧ W.cell? ⟨p, 2, none⟩ = some (.slice (some ⟨cb1, 0, none⟩) N c1) ∧ W.cell? ⟨cb1, m, none⟩ = some (.slice a1 n1 k1))
            19 [0, 1, 2, 3, 4, 5, 6, 7, 8, 9, 10, 11, 12, 13, 14, 15, 16] [17, 18, 19] (by kernel_rfl) (by decide +kernel) IB.out.s ?_
          iterate 17
            refine wpFirst_cons (v := ?_) rfl rfl ?_ ?_
            rotate_left
            · (intro W hW; (try dsimp only at hW); go_simp) <;> with_reducible rfl
            simp only [Act.put, List.setIfInBounds_toArray]
          refine wpFirst_nil ?_
          refine wpRest_cons rfl ?_
          intro K hK
          go_wp2_with fail
          refine (KA.out _ (below_drew1 wr)).mono ?_
          rintro e w6 ⟨v6, rfl, o6, hb6⟩
          have I6 := Lib.hid (IB.out.below hb6)
          have HF := Lib.hid (HPT.out w6 v6 I6.out.2.2.2.2 o6)
          obtain ⟨a6, k6, rfl, _, _⟩ := ownsRow_form o6
          clear KA o6 hb6 HPT IB
          go_wp2_with fail
          refine hK.out _ _ (fun _ => I6.out.s) ?_
          clear hK K
          refine wpRest_cons rfl ?_
          intro K hK
          go_wp2_with fail
          refine hK.out _ _ (fun _ => I6.out.s) ?_
          clear hK K
          refine wpRest_cons rfl ?_
          intro K hK
          obtain ⟨_, _, c3, f3, _⟩ := I6.out
          go_wp2_with fail
          refine hK.out _ _ (fun h => absurd rfl h) ?_
          clear hK K
          refine wpRest_nil ?_
          go_wp2_with fail
          go_roundw
          case rel => exact ⟨r + 1, by go_num, by omega, HF⟩
          case measure => simp [intOf]; omega
        · have hre : r = n := by omega
          have HF : Hid (RMst T i w p q cbq cq curq V U (m + 1) 0 wr) := Lib.hid (by
            have := HQ.out
            rw [hre, ← HNL.out, HLU.out] at this
            refine ⟨?_, this.2⟩
            rw [← HDN.out]
            exact this.1)
          clear HQ hre HH
          go_wp2_with fail
          go_roundw
          case rel => exact ⟨m + 1, by go_num, by omega, HF⟩
          case measure => simp [intOf]; omega
    · have hme : m = N := by omega
      have HF : Hid (Goes T i w (RSk p (V.merge U)) wr) := Lib.hid (by
        have := HR.out.1
        rw [hme, ← HN.out, SkV.mpart_all] at this
        exact this)
      clear HR hme
      go_wp2_with fail
      go_ret
      exact ⟨rfl, HF⟩
end Go.Proofs.Ytadlfmdliinnnaa
