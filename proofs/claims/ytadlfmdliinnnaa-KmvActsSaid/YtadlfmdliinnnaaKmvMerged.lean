/- Contracts of kmv's Merge: two sketches of one kind, and one with itself. Conditions: sketches that were made. -/
import Derived.Test.YtadlfmdliinnnaaKmvMerge
set_option maxRecDepth 100000
namespace Go.Proofs.Ytadlfmdliinnnaa
open Go.RowKit Go.Maps Go.Sort

def SkV.mpart (V U : SkV) (m k : Nat) : SkV := { V with L := V.L.mapIdx fun j l => if j < m then mergeL V.t l (U.L.getD j []) else if j = m then mergeL V.t l ((U.L.getD j []).take k) else l }
/-- those of another one, too -/
def SkV.merge (V U : SkV) : SkV := { V with L := V.L.mapIdx fun j l => mergeL V.t l (U.L.getD j []) }
theorem mergeL_next (t : Nat) (l b : List Nat) (k : Nat) (h : k < b.length) : mergeL t l (b.take (k + 1)) = addL t (b.getD k 0) (mergeL t l (b.take k)) := by
  unfold mergeL
  rw [List.take_succ_eq_append_getElem h, List.foldl_append, List.getD_eq_getElem?_getD, List.getElem?_eq_getElem h]
  rfl
theorem SkV.mpart_len (V U : SkV) (m k : Nat) : (V.mpart U m k).L.length = V.L.length := by simp [SkV.mpart]
theorem SkV.mpart_zero (V U : SkV) : V.mpart U 0 0 = V := by
  cases V with
  | mk t S L =>
    unfold SkV.mpart
    congr 1
    apply List.ext_getElem
    · simp
    · intro j h1 h2
      rw [List.getElem_mapIdx, if_neg (by omega)]
      split
      · simp [mergeL]
      · rfl
theorem SkV.mpart_all (V U : SkV) : V.mpart U V.L.length 0 = V.merge U := by
  unfold SkV.mpart SkV.merge
  congr 1
  apply List.ext_getElem
  · simp
  · intro j h1 h2
    simp at h1
    rw [List.getElem_mapIdx, List.getElem_mapIdx, if_pos h1]
theorem SkV.mpart_done (V U : SkV) (m : Nat) : V.mpart U m (U.L.getD m []).length = V.mpart U (m + 1) 0 := by
  unfold SkV.mpart
  congr 1
  apply List.ext_getElem
  · simp
  · intro j h1 h2
    rw [List.getElem_mapIdx, List.getElem_mapIdx]
    by_cases g : j < m
    · rw [if_pos g, if_pos (by omega)]
    · rw [if_neg g]
      by_cases e : j = m
      · subst e
        rw [if_pos rfl, if_pos (by omega), List.take_length]
      · rw [if_neg e, if_neg (by omega)]
        by_cases e2 : j = m + 1
        · rw [if_pos e2]; simp [mergeL]
        · rw [if_neg e2]
theorem SkV.mpart_next (V U : SkV) (m k : Nat) (hk : k < (U.L.getD m []).length) (h : m < (V.mpart U m k).L.length) :
    (⟨(V.mpart U m k).t, (V.mpart U m k).seeds, (V.mpart U m k).L.set m (addL (V.mpart U m k).t ((U.L.getD m []).getD k 0) (V.mpart U m k).L[m])⟩ : SkV) = V.mpart U m (k + 1) := by
  unfold SkV.mpart
  congr 1
  apply List.ext_getElem
  · simp
  · intro j h1 h2
    simp only [List.getElem_set]
    by_cases e : m = j
    · subst e
      rw [if_pos rfl, List.getElem_mapIdx, if_neg (by omega), if_pos rfl, mergeL_next _ _ _ _ hk]
      congr 1
      exact (List.getElem_mapIdx ..).trans (by rw [if_neg (by omega), if_pos rfl])
    · rw [if_neg e, List.getElem_mapIdx, List.getElem_mapIdx]
      by_cases g : j < m
      · rw [if_pos g, if_pos g]
      · rw [if_neg g, if_neg g, if_neg (fun e' => e e'.symm), if_neg (fun e' => e e'.symm)]

section
variable {T : Tags} {i j : Nat} {w : World} {p q : Nat} {V U : SkV}

def MSt (T : Tags) (i j : Nat) (w : World) (p q : Nat) (V U : SkV) (m k : Nat) (v : Option Value) (W : World) : Prop :=
  ∃ T1, Next T w T1 ∧ Else (fun k => T k = some i) w W ∧ Sk p (V.mpart U m k) T1 i W ∧ Sk q U T1 j W ∧ ∀ u, v = some u → W.ownsRow 0 32 1 u (U.L.getD m []).length (nats (U.L.getD m [])) ∧ ∀ g, u.ownBlock = some g → T1 g = some j

theorem Sk.good (h : Sk p V T i w) : V.Good := by obtain ⟨_, _, _, _, g⟩ := h; exact g.good
theorem getD_at {α : Type} {L : List α} {m : Nat} (h : m < L.length) (d : α) : L.getD m d = L[m] := by rw [List.getD_eq_getElem?_getD, List.getElem?_eq_getElem h]; rfl
theorem MSt.drewN {m k : Nat} {v : Option Value} {W : World} (h : MSt T i j w p q V U m k v W) (n : Nat) : MSt T i j w p q V U m k v (W.drewN n) := by
  obtain ⟨T1, n1, e1, h1, h2, h3⟩ := h
  exact ⟨T1, n1, e1.drewN n, (Sk.framed _ _).below h1 (below_drewN W n), (Sk.framed _ _).below h2 (below_drewN W n), h3⟩

theorem mergeOk_two (h : Sk p V T i w) (g : Sk q U T j w) (hij : i ≠ j) (ht : U.t = V.t) (hS : U.seeds = V.seeds) :
    MergeOk p q V.seeds.length V.t U.L (fun m => MSt T i j w p q V U m 0 none) (fun m k v => MSt T i j w p q V U m k (some v)) := by
  have hU := g.good
  have hV := h.good
  have hlen : U.L.length = V.seeds.length := by rw [hU.len, hS]
  have hgood : ∀ m, m < V.seeds.length → GoodL V.t (U.L.getD m []) := fun m hm => by
    rw [getD_at (by omega), ← ht]
    exact hU.row _ (List.getElem_mem _)
  refine ⟨hlen, hV.set.n7, fun m W hm hst => ?_, fun m k v W hin => ?_, fun m k v W hk hm hin => ?_, fun m v W hin => ?_, fun m => ?_⟩
  · obtain ⟨T1, n1, e1, h1, h2, _⟩ := hst
    have h2' := h2
    obtain ⟨sa, sc, cb, rows, g2⟩ := h2
    have hmL : m < U.L.length := by omega
    obtain ⟨v, hv, c3, f3, hown, hgl⟩ := g2.at_ hmL
    obtain ⟨c0, c1, c2⟩ := g2.cells
    obtain ⟨a, c, rfl, _, _⟩ := ownsRow_form hown
    rw [hlen] at c2
    refine ⟨cb, a, c, c2, ?_, T1, n1, e1, h1, h2', fun u hu => ?_⟩
    · rw [getD_at hmL]; exact c3
    · cases hu
      rw [getD_at hmL]
      exact ⟨hown, fun g' hg' => g2.tr m _ g' hv hg'⟩
  · obtain ⟨T1, _, _, _, _, h3⟩ := hin
    exact Holds.of_row (by rw [nats_len]; exact (h3 v rfl).1)
  · obtain ⟨T1, n1, e1, h1, h2, h3⟩ := hin
    obtain ⟨sa, sc, cb, rows, g1⟩ := h1
    have hmL : m < (V.mpart U m k).L.length := by rw [SkV.mpart_len, hV.len]; exact hm
    have hx := (hgood m hm).lt _ (List.getElem_mem hk)
    have K := keep_any g1 hmL (x := (U.L.getD m []).getD k 0) (by rw [getD_at hk]; exact hx)
    rw [SkV.mpart_next _ _ _ _ hk hmL] at K
    refine K.mono ?_
    rintro e w' ⟨rfl, T2, n2, e2, h4⟩
    refine ⟨rfl, T2, fun k hk => (n2 k (Nat.lt_of_lt_of_le hk e1.size)).trans (n1 k hk), e1.trans e2 (fun x hx => ?_), h4, ?_, fun u hu => ?_⟩
    · rcases Nat.lt_or_ge x w.heap.size with g | g
      · exact .inl ((n1 x g).symm.trans hx)
      · exact .inr g
    · exact (Sk.framed q U) T1 T2 j W w' h2 n2 (fun k hk hT => e2.block k hk (fun hx => by
        rcases hT with hT | hT
        · rw [hT] at hx; cases hx
        · rw [hT] at hx; exact hij (Option.some.inj hx).symm))
    · obtain ⟨ho, htag⟩ := h3 u hu
      refine ⟨ownsRow_of_block ho fun g' hg' => e2.block g' (ho.lt g' hg').2 (fun hx => ?_), fun g' hg' => (n2 g' (ho.lt g' hg').2).trans (htag g' hg')⟩
      rw [htag g' hg'] at hx
      exact hij (Option.some.inj hx).symm
  · obtain ⟨T1, n1, e1, h1, h2, _⟩ := hin
    rw [SkV.mpart_done] at h1
    exact ⟨T1, n1, e1, h1, h2, fun u hu => by cases hu⟩
  · by_cases hm : m < V.seeds.length
    · have := (hgood m hm).len
      have := hV.set.t64
      omega
    · rw [List.getD_eq_getElem?_getD, List.getElem?_eq_none (by omega)]; simp

/-- two sketches of one kind -/
theorem merge_two (h : Sk p V T i w) (g : Sk q U T j w) (hij : i ≠ j) (ht : U.t = V.t) (hS : U.seeds = V.seeds) :
    Calls Try.prog 16 #[.pointer (some ⟨p, 0, none⟩), .pointer (some ⟨q, 0, none⟩)] w fun e w' => e = .returned (.int .i64 0) ∧ Goes T i w (Sk p (V.merge U)) w' := by
  have hok := mergeOk_two h g hij ht hS
  have h0 : MSt T i j w p q V U 0 0 none w := ⟨T, fun _ _ => rfl, Else.refl _ _, by rw [SkV.mpart_zero]; exact h, g, fun u hu => by cases hu⟩
  have hV := h.good
  obtain ⟨sa, sc, cb, rows, g1⟩ := h
  obtain ⟨sb, sd, cd, rows', g2⟩ := g
  obtain ⟨c0, c1, c2⟩ := g1.cells
  obtain ⟨d0, d1, d2⟩ := g2.cells
  rw [ht] at d0
  rw [hS] at d1
  refine (merge_walk hok (S := V.seeds) rfl c0 c1 d0 d1 g1.seeds (hS ▸ g2.seeds) hV.set.t2 h0 (fun m W n hst => hst.drewN n)).mono ?_
  rintro e w' ⟨rfl, hst⟩
  obtain ⟨T1, n1, e1, h1, _, _⟩ := hst.out
  refine ⟨rfl, T1, n1, e1, ?_⟩
  rw [← hV.len, SkV.mpart_all] at h1
  exact h1

/-- a hash that is there changes nothing -/
theorem keep_same {m : Nat} (h : Sk p V T i w) (hm : m < V.L.length) {x : Nat} (hx : x ∈ V.L[m]) :
    Calls Try.prog 33 #[.pointer (some ⟨p, 0, none⟩), .int .i64 (m : Int), .int .u64 (x : Int)] w fun e w' => e = .returned (.tuple #[]) ∧ Below w.heap.size w w' := by
  obtain ⟨sa, sc, cb, rows, g⟩ := h
  obtain ⟨c0, c1, c2⟩ := g.cells
  obtain ⟨v, hv, c3, f3, hown, hgl⟩ := g.at_ hm
  have h64 := g.good.set.t64
  have hln := hgl.len
  obtain ⟨a, c, rfl, hac, hcm⟩ := ownsRow_form hown
  have KS : SearchOf w x V.L[m].length c a (cntL x V.L[m]) := keep_search hown hgl.up (by omega)
  obtain ⟨hk, e⟩ := (mem_iff_at hgl.up).1 hx
  have HR := Holds.of_row (by rw [nats_len]; exact hown)
  obtain ⟨ad, rfl⟩ := HR.ptr (by omega : 0 < V.L[m].length)
  have hcell := HR.cell (nats_at hk)
  rw [e] at hcell
  exact keep_there c0 c2 c3 hcell (lt_of_heap g.head) (lt_of_heap g.tab) (World.block_lt_of_cell? w _ hcell) hm hk (by omega) KS

theorem mergeOk_self (h : Sk p V T i w) :
    MergeOk p p V.seeds.length V.t V.L (fun _ W => Below w.heap.size w W) (fun m _ v W => Below w.heap.size w W ∧ Holds w v (nats (V.L.getD m []))) := by
  have hV := h.good
  refine ⟨hV.len, hV.set.n7, fun m W hm hst => ?_, fun m k v W hin => hin.2.below hin.1, fun m k v W hk hm hin => ?_, fun m v W hin => hin.1, fun m => ?_⟩
  · obtain ⟨sa, sc, cb, rows, g⟩ := h
    have hmL : m < V.L.length := by rw [hV.len]; exact hm
    obtain ⟨v, hv, c3, f3, hown, hgl⟩ := g.at_ hmL
    obtain ⟨c0, c1, c2⟩ := g.cells
    obtain ⟨a, c, rfl, _, _⟩ := ownsRow_form hown
    rw [hV.len] at c2
    refine ⟨cb, a, c, ?_, ?_, hst, ?_⟩
    · rw [hst.cell (p := ⟨p, 2, none⟩) (lt_of_heap g.head)]; exact c2
    · rw [getD_at hmL, hst.cell (p := ⟨cb, m, none⟩) (lt_of_heap g.tab)]; exact c3
    · rw [getD_at hmL]; exact Holds.of_row (by rw [nats_len]; exact hown)
  · have hmL : m < V.L.length := by rw [hV.len]; exact hm
    have hx : (V.L.getD m []).getD k 0 ∈ V.L[m] := by
      rw [getD_at hk]
      have h2 : ∀ z, z = V.L.getD m [] → (V.L.getD m [])[k] ∈ z := fun z hz => by subst hz; exact List.getElem_mem hk
      exact h2 _ (getD_at hmL []).symm
    refine (keep_same ((Sk.framed p V).below h hin.1) hmL hx).mono ?_
    rintro e w' ⟨rfl, hb⟩
    exact ⟨rfl, hin.1.trans (hb.mono hin.1.size), hin.2⟩
  · by_cases hm : m < V.L.length
    · have := (hV.row _ (List.getElem_mem hm)).len
      have := hV.set.t64
      rw [getD_at hm]
      omega
    · rw [List.getD_eq_getElem?_getD, List.getElem?_eq_none (by omega)]; simp
/-- with itself -/
theorem merge_self (h : Sk p V T i w) :
    Calls Try.prog 16 #[.pointer (some ⟨p, 0, none⟩), .pointer (some ⟨p, 0, none⟩)] w fun e w' => e = .returned (.int .i64 0) ∧ Below w.heap.size w w' := by
  have hok := mergeOk_self h
  have hV := h.good
  obtain ⟨sa, sc, cb, rows, g1⟩ := h
  obtain ⟨c0, c1, c2⟩ := g1.cells
  refine (merge_walk hok (S := V.seeds) rfl c0 c1 c0 c1 g1.seeds g1.seeds hV.set.t2 (Below.refl _ _) (fun m W n hst => below_dN hst n)).mono ?_
  rintro e w' ⟨rfl, hst⟩
  exact ⟨rfl, hst.out⟩
end
end Go.Proofs.Ytadlfmdliinnnaa
