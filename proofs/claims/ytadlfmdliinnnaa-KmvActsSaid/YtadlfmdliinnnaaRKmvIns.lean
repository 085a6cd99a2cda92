/- Contract of the reference's Insert: a number into each list. Conditions: a sketch that was made. -/
import Derived.Test.YtadlfmdliinnnaaRKmvSk
import Derived.Test.YtadlfmdliinnnaaSched
import Derived.Test.YtadlfmdliinnnaaKmvIns
import Derived.Test.YtadlfmdliinnnaaFieldRefHash
set_option maxRecDepth 100000
namespace Go.Proofs.Ytadlfmdliinnnaa
open Go.RowKit Go.Maps Go.Sort

/-- what the walk of a round knows in a world -/
def InsW (w : World) (p cb b t N c m A B : Nat) (v : Value) (W : World) : Prop :=
  W.cell? ⟨p, 0, none⟩ = some (.int .i64 t) ∧ W.cell? ⟨p, 2, none⟩ = some (.slice (some ⟨cb, 0, none⟩) N c) ∧ W.cell? ⟨cb, m, none⟩ = some v ∧ W.frozen? ⟨cb, m, none⟩ = false ∧ W.cell? ⟨b, 0, none⟩ = some (.int .u64 A) ∧ W.cell? ⟨b, 1, none⟩ = some (.int .u64 B) ∧ Below w.heap.size w W
theorem InsW.below {w W W' : World} {p cb b t N c m A B : Nat} {v : Value} (h : InsW w p cb b t N c m A B v W) (hb : Below W.heap.size W W') : InsW w p cb b t N c m A B v W' := by
  obtain ⟨h1, h2, h3, h4, h5, h6, h7⟩ := h
  have l : ∀ {a : Addr} {u}, W.cell? a = some u → W'.cell? a = some u := fun {a u} ha => by rw [hb.cell (World.block_lt_of_cell? W a ha)]; exact ha
  exact ⟨l h1, l h2, l h3, by rw [hb.frozen (World.block_lt_of_cell? W _ h3)]; exact h4, l h5, l h6, h7.trans (hb.mono h7.size)⟩

theorem InsW.s {w W : World} {p cb b t N c m A B : Nat} {v : Value} (h : InsW w p cb b t N c m A B v W) : W.cell? ⟨p, 0, none⟩ = some (.int .i64 t) ∧ W.cell? ⟨p, 2, none⟩ = some (.slice (some ⟨cb, 0, none⟩) N c) ∧ W.cell? ⟨cb, m, none⟩ = some v ∧ W.cell? ⟨b, 0, none⟩ = some (.int .u64 A) ∧ W.cell? ⟨b, 1, none⟩ = some (.int .u64 B) :=
  ⟨h.1, h.2.1, h.2.2.1, h.2.2.2.2.1, h.2.2.2.2.2.1⟩
theorem InsW.base {w W : World} {p cb b t N c m A B : Nat} {v : Value} (h : InsW w p cb b t N c m A B v W) : Below w.heap.size w W := h.2.2.2.2.2.2

set_option maxHeartbeats 6400000 in
theorem rins_any {T : Tags} {i : Nat} {w : World} {p : Nat} {V : SkV} (h : RSk p V T i w) {x : Nat} (hx : x < 18446744073709551616) :
    Calls Try.prog 15 #[.pointer (some ⟨p, 0, none⟩), .int .u64 (x : Int)] w fun e w' => e = .returned (.tuple #[]) ∧ Hid (Goes T i w (RSk p (V.ins x)) w') := by
  have h' := h
  obtain ⟨sa, sc, cb, c, cur, g⟩ := h'
  obtain ⟨c0, c1, c2⟩ := g.cells
  have hgood := g.good
  have ht2 := hgood.set.t2
  have hn7 := hgood.set.n7
  have hlen := hgood.len
  have HS := Lib.hid (SkV.part_zero V x ▸ (Goes.start (A := RSk p V) h))
  have HSD := Lib.hid (fun wr (e : Else (fun k => T k = some i) w wr) => g.seeds.keep (e.block sa.block (seeds_lt g.seeds g.good.set.n1) (by rw [g.ts]; simp)))
  have HG := Lib.hid hgood
  have HX := Lib.hid hx
  have HL := Lib.hid hlen
  clear hgood hx hlen h g
  go_enter Try.func15, Try.ntmps15
  go_wp2_with fail
  generalize hN : V.seeds.length = N at *
  have HN := Lib.hid hN
  clear hN c0 c1 c2
  go_loopw [4, 11] (fun _ k wr => ∃ m : Nat, k = .int .i64 m ∧ m ≤ N ∧ Hid (Goes T i w (RSk p (V.part x m)) wr)) (fun _ k _ => N - (intOf k).toNat)
  case atStart => exact ⟨0, rfl, Nat.zero_le _, HS.out⟩
  case round =>
    obtain ⟨m, rfl, hm, HR⟩ := hrel
    by_cases hlt : m < N
    · obtain ⟨T1, n1, e1, sa1, sc1, cb, c1, cur1, g1⟩ := HR.out
      have hms : m < V.seeds.length := by rw [HN.out]; exact hlt
      have hmL : m < (V.part x m).L.length := by rw [SkV.part_len, HL.out]; exact hlt
      obtain ⟨c0, _, c2⟩ := g1.cells
      obtain ⟨v, hv, c3, f3, hown, hgl⟩ := g1.at_ hmL
      obtain ⟨d0, d1⟩ := (HSD.out wr e1).read hms
      rw [show (V.part x m).L.length = N by rw [SkV.part_len, HL.out]] at c2
      have hsd := HG.out.set.seed _ (List.getElem_mem hms)
      have HH : Hid (hashP V.seeds[m].1 V.seeds[m].2 x = V.hash m x) := Lib.hid (by
        unfold SkV.hash
        rw [List.getD_eq_getElem?_getD, List.getElem?_eq_getElem hms]; rfl)
      generalize V.seeds[m] = sd at *
      obtain ⟨sA, sB⟩ := sd
      have b0 : (0 : Int) ≤ (m : Int) := by omega
      have b1 : (m : Int) < (N : Int) := by omega
      have KH := Lib.hid (fun W => refHash_any sA sB x W (by have := hsd.2.1; simp at this; omega) (by have := hsd.2.2; simp at this; omega) HX.out)
      have G1 := Lib.hid g1
      have hb0 := (Below.refl wr.heap.size wr).alloc (Nat.le_refl _) (.cells #[.int .u64 (sA : Int), .int .u64 (sB : Int)] 65)
      obtain ⟨a1, k1, rfl, hk1, hkm⟩ := ownsRow_form hown
      have hI : InsW wr p cb wr.heap.size V.t N c1 m sA sB (.slice a1 (V.part x m).L[m].length k1) (wr.alloc (.cells #[.int .u64 (sA : Int), .int .u64 (sB : Int)] 65)) := by
        have hw := alloc1 wr (.cells #[.int .u64 (sA : Int), .int .u64 (sB : Int)] 65)
        refine ⟨?_, ?_, ?_, ?_, ?_, ?_, hb0⟩
        · rw [hb0.cell (World.block_lt_of_cell? _ _ c0)]; exact c0
        · rw [hb0.cell (World.block_lt_of_cell? _ _ c2)]; exact c2
        · rw [hb0.cell (World.block_lt_of_cell? _ _ c3)]; exact c3
        · rw [hb0.frozen (World.block_lt_of_cell? _ _ c3)]; exact f3
        · rw [cell_of_row _ _ _ _ _ _ hw]; rfl
        · rw [cell_of_row _ _ _ _ _ _ hw]; rfl
      have hln : (V.part x m).L[m].length ≤ 1000 := by
        have h1 := hgl.len
        have h2 : (V.part x m).t ≤ 64 := HG.out.set.t64
        omega
      have KA := Lib.hid (fun W (hW : Below wr.heap.size wr W) => radd_any (w := W) (t := V.t) (h := hashP sA sB x) ((Holds.of_row (by rw [nats_len]; exact hown)).below hW) hgl.up hgl.len rfl hln)
      have HPT := Lib.hid (fun w1 v' (hb : Below wr.heap.size wr w1) (ho : w1.ownsRow wr.heap.size 32 1 v' (addL V.t (V.hash m x) (V.part x m).L[m]).length (nats (addL V.t (V.hash m x) (V.part x m).L[m]))) =>
        Goes.after n1 e1 (g1.put (j := m) (l' := addL V.t (V.hash m x) (V.part x m).L[m]) hmL hb ho ⟨addL_up hgl.up, addL_len hgl.len, fun y hy => by
          rcases addL_mem hy with rfl | hy
          · exact hashP_lt _ _ _
          · exact hgl.lt y hy⟩))
      have HNX : Hid ((⟨(V.part x m).t, (V.part x m).seeds, (V.part x m).L.set m (addL V.t (V.hash m x) (V.part x m).L[m])⟩ : SkV) = V.part x (m + 1)) := Lib.hid (SkV.part_next V x m hmL)
      rw [HNX.out] at HPT
      rw [HH.out] at KA
      generalize (V.part x m).L[m] = l at *
      clear hsd HR hv hown hgl g1 hln HNX
      generalize l.length = ln at *
      go_wp2_with fail
      obtain ⟨WB, hWB⟩ : ∃ WB, WB = (wr.alloc (.cells #[.int .u64 (sA : Int), .int .u64 (sB : Int)] 65)) := ⟨_, rfl⟩
      rw [← hWB] at hI ⊢
      have IB := Lib.hid (show InsW wr p cb wr.heap.size V.t N c1 m sA sB (.slice a1 ln k1) WB.drew from hI.below (below_drew1 WB))
      clear hWB c0 c2 c3 f3 d0 d1 hI hb0
      refine wp_region_sched (fun W => W.cell? ⟨p, 0, none⟩ = some (.int .i64 V.t) ∧ W.cell? ⟨p, 2, none⟩ = some (.slice (some ⟨cb, 0, none⟩) N c1) ∧ W.cell? ⟨cb, m, none⟩ = some (.slice a1 ln k1) ∧ W.cell? ⟨wr.heap.size, 0, none⟩ = some (.int .u64 sA) ∧ W.cell? ⟨wr.heap.size, 1, none⟩ = some (.int .u64 sB))
        21 [0, 1, 2, 3, 4, 5, 6, 7, 8, 9, 10, 11, 12, 13, 15, 16, 17, 18] [14, 19, 20, 21] (by kernel_rfl) (by decide +kernel) IB.out.s ?_
      iterate 18
        refine wpFirst_cons (v := ?_) rfl rfl ?_ ?_
        rotate_left
        · (intro W hW; (try dsimp only at hW); go_simp) <;> with_reducible rfl
        simp only [Act.put, List.setIfInBounds_toArray]
      refine wpFirst_nil ?_
      refine wpRest_cons rfl ?_
      intro K hK
      go_wp2_with fail
      refine (KH.out _).mono ?_
      rintro e w5 ⟨rfl, hb5⟩
      have I5 := Lib.hid (IB.out.below hb5)
      clear hb5 KH IB
      go_wp2_with fail
      refine hK.out _ _ (fun _ => I5.out.s) ?_
      clear hK K
      refine wpRest_cons rfl ?_
      intro K hK
      rw [HH.out]
      go_wp2_with fail
      refine (KA.out _ I5.out.base).mono ?_
      rintro e w6 ⟨v6, rfl, o6, hb6⟩
      have I6 := Lib.hid (I5.out.below hb6)
      have HF := Lib.hid (HPT.out w6 v6 I6.out.base (ownsRow_rebase o6 (fun g hg => Nat.le_trans I5.out.base.size (o6.lt g hg).1)))
      obtain ⟨a6, k6, rfl, _, _⟩ := ownsRow_form o6
      clear KA o6 hb6 HPT
      go_wp2_with fail
      refine hK.out _ _ (fun _ => I6.out.s) ?_
      clear hK K
      refine wpRest_cons rfl ?_
      intro K hK
      go_wp2_with fail
      refine hK.out _ _ (fun _ => I6.out.s) ?_
      clear hK K
      refine wpRest_cons rfl ?_
      intro K hK
      obtain ⟨_, _, c3, f3, _, _, _⟩ := I6.out
      go_wp2_with fail
      refine hK.out _ _ (fun h => absurd rfl h) ?_
      clear hK K
      refine wpRest_nil ?_
      go_wp2_with fail
      go_roundw
      case rel => exact ⟨m + 1, by go_num, by omega, HF⟩
      case measure => simp [intOf]; omega
    · have he : m = N := by omega
      have HE : Hid (Goes T i w (RSk p (V.ins x)) wr) := Lib.hid (by
        have := HR.out
        rw [he, ← HL.out, SkV.part_all] at this
        exact this)
      clear HR he
      go_wp2_with fail
      go_end0
      exact ⟨rfl, HE⟩
end Go.Proofs.Ytadlfmdliinnnaa
