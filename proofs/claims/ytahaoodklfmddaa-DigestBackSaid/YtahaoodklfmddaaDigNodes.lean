/- Contract of digest's Nodes: the nodes by code, in memory of the call's own. Conditions: a digest that was made. -/
import Derived.Test.YtahaoodklfmddaaDigGath
set_option maxRecDepth 100000
namespace Go.Proofs.Ytahaoodklfmddaa
open Go.RowKit Go.Maps Go.Sort Go.Shelf

/-- the counters by id, in memory of the call's own -/
def NodesAt (w : World) (L : DL) (e : Ending) (w' : World) : Prop := ∃ g c, e = .returned (.slice (some ⟨g, 0, none⟩) L.length c) ∧ w.heap.size ≤ g ∧ L.length ≤ c ∧ RowN w' g L ∧ Below w.heap.size w w'

set_option maxHeartbeats 4000000 in
theorem nodes_at {w : World} {p m b : Nat} {L : DL} (c0 : w.cell? ⟨p, 0, none⟩ = some (.int .i64 m)) (h1 : 1 ≤ m) (c2 : w.cell? ⟨p, 2, none⟩ = some (.map (some b))) (hM : PAt w b L) (hl : L.length ≤ 100000) :
    Calls Try.prog 17 #[.pointer (some ⟨p, 0, none⟩)] w (NodesAt w L) := by
  have KM := made_at h1 c0
  have hlen := hM.len
  have hb := hM.lt
  obtain ⟨i0, hi, hz0, hz1, hz2⟩ := info_parts info_node
  have hmk : ∀ W, (Instr.makeSlice 47 (.int .i64 0) (.int .i64 (L.length : Int))).run Try.prog W = .ok (.slice (some ⟨W.heap.size, 0, none⟩) 0 L.length) (W.alloc (.cells (madeCells (Value.agg #[.int .i64 0, .int .u64 0, .int .i64 0]).cells (L.length * 3)) 50)) := fun W => by
    have := run_make (P := Try.prog) W 47 50 i0 (.agg #[.int .i64 0, .int .u64 0, .int .i64 0]) Try.underlying47 hi hz0 .i64 .i64 0 L.length (by omega) (by omega) (by rw [hz2]; omega) (by omega)
    rw [this, hz1]
    rfl
  have HM := Lib.hid hM
  have HL := Lib.hid hl
  clear hM h1 c0 hi hz0 hz1 hz2 hl
  go_enter Try.func17, Try.ntmps17
  go_wp2_with fail
  refine KM.mono ?_
  rintro e w' ⟨rfl, rfl⟩
  clear KM
  obtain ⟨cs, hcs⟩ : ∃ cs, madeCells (Value.agg #[.int .i64 0, .int .u64 0, .int .i64 0]).cells (L.length * 3) = cs := ⟨_, rfl⟩
  have HCS := Lib.hid hcs
  simp only [hcs] at hmk
  clear hcs
  have hown : (w.alloc (.cells cs 50)).ownsMap Try.prog 67 (plainElem Try.prog 3) b L.length (mapP L) := HM.out.own.alloc _
  have c2' : (w.alloc (.cells cs 50)).cell? ⟨p, 2, none⟩ = some (.map (some b)) := by
    rw [((Below.refl _ w).alloc (Nat.le_refl _) _).cell (World.block_lt_of_cell? w _ c2)]; exact c2
  go_wp2_with (first
    | (at_range; refine wpList_range_own _ rfl _ 60 rfl 67 3 KP Try.underlying60 (plainElem Try.prog 3) b L.length _ rfl hown ?_; intro w1 hrg1 hg1 hs1)
    | fail)
  go_frame
  obtain ⟨r, hr⟩ : ∃ r, (w.alloc (.cells cs 50)).heap.size = r := ⟨_, rfl⟩
  rw [hr] at hrg1 ⊢
  have hr' : r = w.heap.size + 1 := by rw [← hr]; simp
  have B1 : Hid (Below w.heap.size w w1) := ((Below.refl _ w).alloc (Nat.le_refl _) (.cells cs 50)).grown hg1 (by simp) (fun j hj => by cases hj)
  have O1 : w1.ownsRow w.heap.size 50 3 (.slice (some ⟨w.heap.size, 0, none⟩) 0 L.length) ([] : DL).length (flatN []) := by
    refine World.ownsRow.kept ?_ hg1 (.inr (by simp [Value.ownBlock]))
    exact World.ownsRow_made w cs L.length (Nat.le_refl _) (by have := HL.out; unfold maxLen; omega) (by rw [← HCS.out]; simp [madeCells, Value.cells])
  have HG0 := Lib.hid (GathP.start HM.out.allIn)
  have HR := Lib.hid hr'
  have HX := Lib.hid (And.intro hrg1 O1)
  clear hr hr' hg1 hs1 hrg1 O1 hown c2 c2' hlen hmk HCS
  go_loopw [3] (fun v wr => ∃ (left : Lit → Bool) (cn : Nat) (xs : DL) (g c : Nat), v = .slice (some ⟨g, 0, none⟩) xs.length c ∧ Hid (wr.ranges Try.prog 67 (plainElem Try.prog 3) b r L.length (mapP L) left cn) ∧ Hid (wr.ownsRow w.heap.size 50 3 (.slice (some ⟨g, 0, none⟩) xs.length c) xs.length (flatN xs)) ∧ Hid (Below w.heap.size w wr) ∧ Hid (GathP L xs left))
    (fun _ wr => wr.rangeLeft b r)
  case atStart => exact ⟨_, _, [], _, _, rfl, HX.out.1, HX.out.2, B1, HG0⟩
  case round =>
    clear HX B1 HG0
    obtain ⟨left, cn, xs, g, c, rfl, Hrg, Hown, HB, HG⟩ := hrel
    have hrg := Hrg.out
    go_wp2_with (first
      | (at_next; refine wpList_next_places HM.out.allIn rfl _ rfl b r L.length _ _ rfl hrg ?_ ?_)
      | fail)
    · intro _ hl0
      have K := sort_nodes (c := c) (rowN_of_owns Hown.out) HM.out.asc HG.out.nodup (HG.out.end hl0) (by have := HG.out.len; have := HL.out; omega)
      have hcap : xs.length ≤ c := by
        rcases Hown.out.2 with ⟨e, _⟩ | ⟨g', cap, cur, e, _, _, h, _⟩
        · simp at e
        · simp at e; omega
      have hg := (Hown.out.lt g rfl).1
      have HC := Lib.hid (And.intro hcap hg)
      clear hl0 hrg hcap hg
      go_wp2_with fail
      refine K.mono ?_
      rintro e w3 ⟨rfl, hR, hgr, hlen⟩
      have HE : Hid (NodesAt w L (.returned (.slice (some ⟨g, 0, none⟩) xs.length c)) w3) := by
        refine ⟨g, c, by rw [hlen], HC.out.2, by rw [hlen]; exact HC.out.1, hR, HB.out.grown hgr HB.out.size (fun j hj => by cases hj; exact HC.out.2)⟩
      clear K hR hgr hlen
      go_wp2_with fail
      go_ret
      exact HE.out
    · intro id y w2 cn2 hm hlx hrg2 hlt hg2 hs2 hen
      have G2 := Lib.hid (HG.out.step HM.out.asc HM.out.allIn hm hlx)
      obtain ⟨a, ha⟩ : ∃ a : Int, a = ((id / 18446744073709551616 : Nat) : Int) := ⟨_, rfl⟩
      obtain ⟨u, hu⟩ : ∃ u : Int, u = ((id % 18446744073709551616 : Nat) : Int) := ⟨_, rfl⟩
      have ek : kV id = .agg #[.int .i64 a, .int .u64 u] := by rw [ha, hu]; rfl
      rw [ek] at hen ⊢
      have hne : some r ≠ (Value.slice (some ⟨g, 0, none⟩) xs.length c).ownBlock := row_ne_iter Hown.out hrg
      have hown2 : w2.ownsRow w.heap.size 50 3 (.slice (some ⟨g, 0, none⟩) xs.length c) xs.length (flatN xs) := Hown.out.kept hg2 (.inr (fun e => hne e.symm))
      have B2 : Hid (Below w.heap.size w w2) := HB.out.grown hg2 HB.out.size (fun j hj => by cases hj; rw [HR.out]; omega)
      have hownA := hown2.alloc (.cells #[.int .i64 a, .int .u64 u] 67)
      have BA : Hid (Below w.heap.size w (w2.alloc (.cells #[.int .i64 a, .int .u64 u] 67))) := B2.out.alloc B2.out.size _
      have hrgA := hrg2.alloc (.cells #[.int .i64 a, .int .u64 u] 67)
      have hszA : (w2.alloc (.cells #[.int .i64 a, .int .u64 u] 67)).heap.size = wr.heap.size + 1 := by rw [World.size_alloc, hs2]
      obtain ⟨v', w3, hrun, hown3, hgr3, hv3⟩ := app_node hownA BA.out.size (by simp) id a u y ha hu (by have := HG.out.len; have := HL.out; omega)
      rw [hszA] at hrun
      obtain ⟨g', c', rfl⟩ : ∃ g' c', v' = .slice (some ⟨g', 0, none⟩) (xs ++ [(id, y)]).length c' := by
        rcases hown3.2 with ⟨e, _⟩ | ⟨g', cap, cur, e, _⟩
        · exact absurd e hv3
        · exact ⟨g', cap, e⟩
      have hlow : some b ≠ (Value.slice (some ⟨g, 0, none⟩) xs.length c).ownBlock := row_ne_low hownA hb
      have RG3 := Lib.hid (hrgA.kept hgr3 hlow (row_ne_iter hownA hrgA))
      have B3 : Hid (Below w.heap.size w w3) := BA.out.grown hgr3 BA.out.size (fun j hj => (hownA.lt j hj).1)
      have O3 := Lib.hid hown3
      have HLT := Lib.hid (And.intro hlt (And.intro RG3.out.left_eq Hrg.out.left_eq))
      have HRUN := Lib.hid hrun
      clear hm hlx hrg2 hlt hg2 hne hown2 hownA hrgA hszA hown3 hgr3 hv3 hlow hrg hrun ha hu ek
      go_wp2_with (first
        | (at_builtin; refine wpList_append_run rfl _ _ 47 rfl rfl rfl (HRUN.out _) ?_)
        | fail)
      go_roundw
      case rel => exact ⟨_, cn2, xs ++ [(id, y)], g', c', by simp, RG3, O3, B3, G2⟩
      case measure => rw [HLT.out.2.1, HLT.out.2.2]; exact HLT.out.1
end Go.Proofs.Ytahaoodklfmddaa
