/- The texts RqOps RqRank, one behind the other; each one's own comment says what it holds. -/
import Derived.Test.YtahaoodklfmddaaDigestActsRowGI
import Derived.Test.YtahaoodklfmddaaDigestActsRowGO
import Derived.Test.YtahaoodklfmddaaSched
import Derived.Test.YtahaoodklfmddaaDigestActsRowGF
import Derived.Test.YtahaoodklfmddaaSched2
/- Contracts of the document's New, Copy and Insert of a digest. Conditions: a digest that was made. -/
set_option maxRecDepth 100000
namespace Go.Proofs.Ytahaoodklfmddaa
open Go.RowKit Go.Maps Go.Sort Go.Shelf

theorem rebaseQ {w : World} {A B : Nat} {e : TypeId} {size : Nat} {v : Value} {n : Nat} {xs : List Value} (h : w.ownsRow A e size v n xs) (hb : ∀ g, v.ownBlock = some g → B ≤ g) : w.ownsRow B e size v n xs := by
  refine ⟨h.1, ?_⟩
  rcases h.2 with h2 | ⟨g, cap, cur, rfl, _, r⟩
  · exact .inl h2
  · exact .inr ⟨g, cap, cur, rfl, hb g rfl, r⟩

theorem rqnew_at {w : World} {m : Nat} (h1 : 1 ≤ m) (h2 : m ≤ 64) :
    Calls Try.prog 7 #[.int .i64 m] w fun e w' => e = .returned (.pointer (some ⟨w.heap.size, 0, none⟩)) ∧ w' = w.alloc (.cells #[.int .i64 m, .slice none 0 0, .int .i64 0] 41) := by
  have z1 : ¬ (m : Int) < 1 := by omega
  have z2 : ¬ (64 : Int) < (m : Int) := by omega
  clear h1 h2
  go_enter Try.func7, Try.ntmps7
  go_wp2_with fail
  go_ret
  exact ⟨rfl, rfl⟩
/-- the document's digest at rest -/
def Rf (p k n : Nat) (L : DL) : Thing := fun T i w => ∃ v, RqAt T i w p k n v L ∧ Rest k n L
theorem Rf.framed (p k n : Nat) (L : DL) : Framed (Rf p k n L) := by
  rintro T T' i w w' ⟨v, h, hR⟩ hT hw
  exact ⟨v, h.keep hT hw, hR⟩
theorem rq_new {w : World} {k : Nat} (h1 : 1 ≤ k) (h2 : k ≤ 64) (T : Tags) (i : Nat) :
    Calls Try.prog 7 #[.int .i64 k] w fun e w' => ∃ p, e = .returned (.pointer (some ⟨p, 0, none⟩)) ∧ Below w.heap.size w w' ∧ ∃ T', Next T w T' ∧ Rf p k 0 [] T' i w' := by
  refine (rqnew_at h1 h2).mono ?_
  rintro e w' ⟨rfl, rfl⟩
  refine ⟨_, rfl, (Below.refl _ w).alloc (Nat.le_refl _) _, T.one w.heap.size (some i), T.one_next w _, .slice none 0 0, ?_, rest_none h1 h2⟩
  exact ⟨heap_alloc_new w _, by unfold Tags.one; rw [if_neg (by omega)], RowQ.nil _ _, fun g hg => by simp [Value.ownBlock] at hg⟩
set_option maxHeartbeats 3200000 in
theorem rqcopy_any {T : Tags} {i j : Nat} {w : World} {p k n : Nat} {L : DL} (h : Rf p k n L T i w) :
    Calls Try.prog 13 #[.pointer (some ⟨p, 0, none⟩)] w fun e w' => ∃ q, e = .returned (.pointer (some ⟨q, 0, none⟩)) ∧ Below w.heap.size w w' ∧ ∃ T', Next T w T' ∧ Rf q k n L T' j w' := by
  obtain ⟨v, h, hG⟩ := h
  obtain ⟨va, vc, rfl, _, _⟩ := h.row.form
  obtain ⟨c0, c1, c2, _⟩ := h.cells
  have hl : L.length ≤ 1000000 := by have := hG.len; have := hG.k64; omega
  obtain ⟨g, kc, w1, hrun', hO'⟩ := copyQ (W := w.drew) (h.row.below (below_drew1 w)) hl
  have hrun := hrun'.out
  have hO := hO'.out
  have HR1 : Hid (∀ ty, (Builtin.append_ #[39, 39] ty #[.slice (some ⟨w.heap.size, 0, none⟩) 0 0, .slice va L.length vc]).run Try.prog (w.alloc (.cells #[] 69)).drew = .ok (.slice (some ⟨g, 0, none⟩) L.length kc) w1) := Lib.hid hrun
  have K : ∀ W, Below w.heap.size w W → W.cell? ⟨p, 0, none⟩ = some (.int .i64 k) ∧ W.cell? ⟨p, 1, none⟩ = some (.slice va L.length vc) ∧ W.cell? ⟨p, 2, none⟩ = some (.int .i64 n) := fun W hb => by
    have e : ∀ {x u}, w.cell? x = some u → W.cell? x = some u := fun {x u} hx => by rw [hb.cell (World.block_lt_of_cell? w _ hx)]; exact hx
    exact ⟨e c0, e c1, e c2⟩
  have hb1 : Below w.heap.size w w1 := (below_drew1 w).trans hO.2
  have S0 : Hid (w.drew.cell? ⟨p, 0, none⟩ = some (.int .i64 k) ∧ w.drew.cell? ⟨p, 1, none⟩ = some (.slice va L.length vc) ∧ w.drew.cell? ⟨p, 2, none⟩ = some (.int .i64 n)) := Lib.hid ⟨c0, c1, c2⟩
  have S1 : Hid ((w.drew.alloc (.cells #[] 69)).cell? ⟨p, 0, none⟩ = some (.int .i64 k) ∧ (w.drew.alloc (.cells #[] 69)).cell? ⟨p, 1, none⟩ = some (.slice va L.length vc) ∧ (w.drew.alloc (.cells #[] 69)).cell? ⟨p, 2, none⟩ = some (.int .i64 n)) := Lib.hid (K _ ((below_drew1 w).alloc (by show w.heap.size ≤ w.heap.size; exact Nat.le_refl _) _))
  have S2 := Lib.hid (K _ hb1)
  have S3 := Lib.hid (K _ (hb1.alloc hb1.size (.cells #[.int .i64 k, .slice (some ⟨g, 0, none⟩) L.length kc, .int .i64 n] 41)))
  have FIN : Hid (∃ q, (Ending.returned (.pointer (some ⟨w1.heap.size, 0, none⟩)) : Ending) = .returned (.pointer (some ⟨q, 0, none⟩)) ∧ Below w.heap.size w (w1.alloc (.cells #[.int .i64 k, .slice (some ⟨g, 0, none⟩) L.length kc, .int .i64 n] 41)) ∧
      ∃ T', Next T w T' ∧ Rf q k n L T' j (w1.alloc (.cells #[.int .i64 k, .slice (some ⟨g, 0, none⟩) L.length kc, .int .i64 n] 41))) := by
    have hg : w.heap.size ≤ g := ownsRow_ge hO.1 g rfl
    have hg1 : g < w1.heap.size := (hO.1.lt g rfl).2
    have hs := hb1.size
    refine ⟨_, rfl, hb1.alloc hs _, fun x => if x < w.heap.size then T x else some j, fun x hx => if_pos hx, _, {
      head := heap_alloc_new w1 _
      tp := by rw [if_neg (by omega)]
      row := RowQ.below (rebaseQ hO.1 fun _ _ => Nat.zero_le _) ((Below.refl _ w1).alloc (Nat.le_refl _) _)
      tb := fun y hy => by
        have e : g = y := by simpa [Value.ownBlock] using hy
        subst e
        rw [if_neg (by omega)] }, hG⟩
  clear h hG hrun hO hb1 K hl
  go_enter Try.func13, Try.ntmps13
  go_wp2_with fail
  refine wp_region_sched (fun W => W.cell? ⟨p, 0, none⟩ = some (.int .i64 k) ∧ W.cell? ⟨p, 1, none⟩ = some (.slice va L.length vc) ∧ W.cell? ⟨p, 2, none⟩ = some (.int .i64 n)) 16 [0, 1, 2, 3, 5, 6, 7, 8, 10, 11, 12, 13] [4, 9, 14, 15, 16] (by kernel_rfl) (by decide +kernel) S0.out ?_
  iterate 12
    refine wpFirst_cons (v := ?_) rfl rfl ?_ ?_
    rotate_left
    · (intro W hW; (try dsimp only at hW); go_simp) <;> with_reducible rfl
    simp only [Act.put, List.setIfInBounds_toArray]
  refine wpFirst_nil ?_
  refine wpRest_cons rfl ?_
  intro K hK
  go_wp2_with fail
  refine hK.out _ _ (fun _ => S1.out) ?_
  clear hK K
  refine wpRest_cons rfl ?_
  intro K hK
  refine wpList_append_run rfl _ _ 39 rfl rfl rfl (HR1.out _) ?_
  go_wp2_with fail
  refine hK.out _ _ (fun _ => S2.out) ?_
  clear hK K
  refine wpRest_cons rfl ?_
  intro K hK
  go_wp2_with fail
  refine hK.out _ _ (fun _ => S2.out) ?_
  clear hK K
  refine wpRest_cons rfl ?_
  intro K hK
  go_wp2_with fail
  refine hK.out _ _ (fun _ => S3.out) ?_
  clear hK K
  refine wpRest_cons rfl ?_
  intro K hK
  go_wp2_with fail
  refine hK.out _ _ (fun h => absurd rfl h) ?_
  clear hK K
  refine wpRest_nil ?_
  go_wp2_with fail
  go_ret
  exact FIN.out
end Go.Proofs.Ytahaoodklfmddaa
/- The document's digest: Rank. Conditions: nodes, few. -/
set_option maxRecDepth 100000
namespace Go.Proofs.Ytahaoodklfmddaa
open Go.RowKit Go.Maps Go.Sort Go.Shelf

def RkSt (w : World) (L : DL) (j : Nat) (v : Value) (wr : World) : Prop := RowQ w.heap.size v ((L.take j).foldl (fun l x => insT x l) []) wr ∧ Below w.heap.size w wr
def InSt (X0 : World) (x : Nat × Int) (M : DL) (j : Nat) (v : Value) (dn : Bool) (wv : World) : Prop :=
  ∃ out, (M.take j).foldl (insS x) ([], false) = (out, dn) ∧ out.length ≤ 2 * j ∧ RowQ X0.heap.size v out wv ∧ Below X0.heap.size X0 wv
theorem InSt.step {X0 W : World} {x : Nat × Int} {M : DL} {j : Nat} {v' : Value} {dn dn' : Bool} {out out' : DL} {q : Nat × Int} (hq : M[j]? = some q) (h : (M.take j).foldl (insS x) ([], false) = (out, dn)) (hs : insS x (out, dn) q = (out', dn')) (hl : out.length ≤ 2 * j)
    (hr : RowQ X0.heap.size v' out' W) (hb : Below X0.heap.size X0 W) : InSt X0 x M (j + 1) v' dn' W := by
  refine ⟨out', by rw [dtake_more hq, List.foldl_append, h]; exact hs, ?_, hr, hb⟩
  have : out'.length ≤ out.length + 2 := by
    have e := congrArg Prod.fst hs
    simp only at e
    rw [← e]
    unfold insS
    split <;> simp
  omega
set_option maxHeartbeats 12800000 in
theorem rqrank_at {T : Tags} {i : Nat} {w : World} {p k n : Nat} {v : Value} {L : DL} (h : RqAt T i w p k n v L) (hI : LInv n L) (hl : L.length ≤ 10000) (hn : n ≤ 1125899906842624) {r : Int} (h1 : 1 ≤ r) (h2 : r ≤ n) :
    Calls Try.prog 31 #[.pointer (some ⟨p, 0, none⟩), .int .i64 r] w fun e w' => e = .returned (rankV (rankG (rsort L) r)) ∧ Below w.heap.size w w' := by
  obtain ⟨c0, c1, c2, _⟩ := h.cells
  obtain ⟨a, cap, rfl, _⟩ := h.row.form
  have t1 : decide (r < 1) = false := decide_eq_false (by omega)
  have t2 : decide ((n : Int) < r) = false := decide_eq_false (by omega)
  have t1' : ¬ r < 1 := by omega
  have t2' : ¬ (n : Int) < r := by omega
  have HH := Lib.hid h
  have HL := Lib.hid hl
  have HI := Lib.hid hI
  have HR := Lib.hid (And.intro h1 (And.intro h2 hn))
  have KT := Lib.hid (fun (x : Nat × Int) (hx : NodeC x.1) (W : World) => rqtop_any hx W)
  have X00 : Hid (RkSt w L 0 (.slice none 0 0) w) := Lib.hid ⟨RowQ.nil _ _, Below.refl _ _⟩
  clear h hl hI h1 h2 hn c0
  go_enter Try.func31, Try.ntmps31
  go_wp2_with fail
  go_loopw [6, 31] (fun s6 s31 wr => ∃ (v : Value) (j : Nat), v = s6 ∧ s31 = .int .i64 j ∧ j ≤ L.length ∧ Hid (RkSt w L j v wr)) (fun _ s _ => L.length - (intOf s).toNat)
  case atStart => exact ⟨_, 0, rfl, rfl, Nat.zero_le _, X00⟩
  case round =>
    clear X00
    obtain ⟨v, j, rfl, rfl, hj, HS⟩ := hrel
    by_cases hlt : j < L.length
    · have hjz : (j : Int) < (L.length : Int) := by omega
      obtain ⟨x, hx⟩ : ∃ x, L[j]? = some x := ⟨_, List.getElem?_eq_getElem hlt⟩
      obtain ⟨g, c', hv, hg, _, r0, r1, r2⟩ := HH.out.row.cell hx
      obtain ⟨rfl, rfl⟩ : a = some ⟨g, 0, none⟩ ∧ cap = c' := by injection hv with h1 _ h2; exact ⟨h1, h2⟩
      obtain ⟨hrow, hbw⟩ := HS.out
      obtain ⟨M, hM⟩ : ∃ M, (L.take j).foldl (fun l x => insT x l) [] = M := ⟨_, rfl⟩
      have hMl : M.length = j := by rw [← hM, rsort_len, List.length_take]; simp; omega
      have hMn : ∀ q ∈ M, NodeC q.1 := fun q hq => by
        have := (rsort_acc (L.take j) [] (fun q hq => HI.out.low q (List.mem_of_mem_take hq)) (fun q hq => by cases hq) List.Pairwise.nil).1
        rw [hM, List.append_nil] at this
        exact HI.out.low q (List.mem_of_mem_take (this.mem_iff.1 hq))
      have hxn : NodeC x.1 := HI.out.low x (List.mem_of_getElem? hx)
      rw [hM] at hrow
      have x0 : wr.cell? ⟨g, j * 3, none⟩ = some (.int .i64 ((x.1 / 18446744073709551616 : Nat) : Int)) := by rw [hbw.cell (World.block_lt_of_cell? w _ r0)]; exact r0
      have x1 : wr.cell? ⟨g, j * 3 + 1, none⟩ = some (.int .u64 ((x.1 % 18446744073709551616 : Nat) : Int)) := by rw [hbw.cell (World.block_lt_of_cell? w _ r1)]; exact r1
      have x2 : wr.cell? ⟨g, j * 3 + 2, none⟩ = some (.int .i64 x.2) := by rw [hbw.cell (World.block_lt_of_cell? w _ r2)]; exact r2
      have KX := KT.out x hxn
      unfold nodeV at KX
      have hlv : x.1 / 18446744073709551616 = x.1 / 18446744073709551616 := rfl
      obtain ⟨lx, hlx⟩ : ∃ lx : Nat, x.1 / 18446744073709551616 = lx := ⟨_, rfl⟩
      obtain ⟨px, hpx⟩ : ∃ px : Nat, x.1 % 18446744073709551616 = px := ⟨_, rfl⟩
      obtain ⟨cx, hcx⟩ : ∃ cx : Int, x.2 = cx := ⟨_, rfl⟩
      obtain ⟨gx, hgx⟩ : ∃ gx : Nat, gr x.1 = gx := ⟨_, rfl⟩
      rw [hlx] at x0
      rw [hpx] at x1
      rw [hcx] at x2
      rw [hlx, hpx, hcx, hgx] at KX
      have HXP := Lib.hid (And.intro hx (And.intro hlx (And.intro hpx (And.intro hcx hgx))))
      obtain ⟨va, vc, rfl, _⟩ := hrow.form
      have HRM := Lib.hid (And.intro hrow (And.intro hM (And.intro hMl (And.intro hMn hbw))))
      obtain ⟨B, hB⟩ : ∃ B, wr.heap.size = B := ⟨_, rfl⟩
      obtain ⟨X0, hX0⟩ : ∃ X0, wr.alloc (.cells #[.int .i64 (lx : Int), .int .u64 (px : Int), .int .i64 cx] 69) = X0 := ⟨_, rfl⟩
      have hxb : X0.heap[B]? = some (.cells #[.int .i64 (lx : Int), .int .u64 (px : Int), .int .i64 cx] 69 (0, 0)) := by rw [← hX0, ← hB]; exact heap_alloc_new _ _
      have hbX : Below wr.heap.size wr X0 := by rw [← hX0]; exact (Below.refl _ _).alloc (Nat.le_refl _) _
      have HX0 := Lib.hid (And.intro hxb hbX)
      have HKX := Lib.hid KX
      have hw64 : IntKind.i64.wrap ((j : Int) + 1) = (j : Int) + 1 := by have := HL.out; rw [IntKind.wrap_i64]; omega
      have X11 : Hid (InSt X0 x M 0 (.slice none 0 0) false X0) := Lib.hid ⟨[], rfl, Nat.le_refl _, RowQ.nil _ _, Below.refl _ _⟩
      clear hv hg r0 r1 r2 hrow hbw hM hMl hMn hxn KX hlv hlx hpx hcx hgx hxb hbX HS
      obtain ⟨V1, rfl⟩ : ∃ x, x = wr := ⟨_, rfl⟩
      go_wp2_with fail
      (try rw [hB])
      (try rw [hX0])
      go_loopw [9, 10, 37] (fun s9 s10 s37 wv => ∃ (vo : Value) (dn : Bool) (j2 : Nat), vo = s9 ∧ s10 = .bool dn ∧ s37 = .int .i64 j2 ∧ j2 ≤ M.length ∧ Hid (InSt X0 x M j2 vo dn wv)) (fun _ _ s _ => M.length - (intOf s).toNat)
      case atStart => exact ⟨_, false, 0, rfl, rfl, rfl, Nat.zero_le _, X11⟩
      case round =>
        clear X11
        obtain ⟨vo, dn, j2, rfl, rfl, rfl, hj2, HS⟩ := hrel
        by_cases hlt2 : j2 < M.length
        · have hjz2 : (j2 : Int) < (M.length : Int) := by omega
          obtain ⟨y, hy⟩ : ∃ y, M[j2]? = some y := ⟨_, List.getElem?_eq_getElem hlt2⟩
          obtain ⟨gm, cm, hv, hgm, _, r0, r1, r2⟩ := HRM.out.1.cell hy
          obtain ⟨rfl, rfl⟩ : va = some ⟨gm, 0, none⟩ ∧ vc = cm := by injection hv with h1 _ h2; exact ⟨h1, h2⟩
          obtain ⟨out, ho1, ho2, ho3, ho4⟩ := HS.out
          have hbwv : Below V1.heap.size V1 wr := HX0.out.2.trans (ho4.mono HX0.out.2.size)
          have y0 : wr.cell? ⟨gm, j2 * 3, none⟩ = some (.int .i64 ((y.1 / 18446744073709551616 : Nat) : Int)) := by rw [hbwv.cell (World.block_lt_of_cell? V1 _ r0)]; exact r0
          have y1 : wr.cell? ⟨gm, j2 * 3 + 1, none⟩ = some (.int .u64 ((y.1 % 18446744073709551616 : Nat) : Int)) := by rw [hbwv.cell (World.block_lt_of_cell? V1 _ r1)]; exact r1
          have y2 : wr.cell? ⟨gm, j2 * 3 + 2, none⟩ = some (.int .i64 y.2) := by rw [hbwv.cell (World.block_lt_of_cell? V1 _ r2)]; exact r2
          have hyn := HRM.out.2.2.2.1 y (List.mem_of_getElem? hy)
          have KY := KT.out y hyn
          unfold nodeV at KY
          obtain ⟨ly, hly⟩ : ∃ ly : Nat, y.1 / 18446744073709551616 = ly := ⟨_, rfl⟩
          obtain ⟨py, hpy⟩ : ∃ py : Nat, y.1 % 18446744073709551616 = py := ⟨_, rfl⟩
          obtain ⟨cy, hcy⟩ : ∃ cy : Int, y.2 = cy := ⟨_, rfl⟩
          obtain ⟨gy, hgy⟩ : ∃ gy : Nat, gr y.1 = gy := ⟨_, rfl⟩
          rw [hly] at y0
          rw [hpy] at y1
          rw [hcy] at y2
          rw [hly, hpy, hcy, hgy] at KY
          have HYP := Lib.hid (And.intro hy (And.intro hly (And.intro hpy (And.intro hcy hgy))))
          have hLT : ltT x y = decide (gx < gy ∨ gx = gy ∧ lx < ly) := by unfold ltT; rw [HXP.out.2.2.2.2, hgy, HXP.out.2.1, hly]
          obtain ⟨G, hG⟩ : ∃ G, wr.heap.size = G := ⟨_, rfl⟩
          obtain ⟨Y0, hY0⟩ : ∃ Y0, wr.alloc (.cells #[.int .i64 (ly : Int), .int .u64 (py : Int), .int .i64 cy] 69) = Y0 := ⟨_, rfl⟩
          have hyb : Y0.heap[G]? = some (.cells #[.int .i64 (ly : Int), .int .u64 (py : Int), .int .i64 cy] 69 (0, 0)) := by rw [← hY0, ← hG]; exact heap_alloc_new _ _
          have hbY : Below wr.heap.size wr Y0 := by rw [← hY0]; exact (Below.refl _ _).alloc (Nat.le_refl _) _
          have hBX : B < X0.heap.size := lt_of_heap HX0.out.1
          have hxb : Y0.heap[B]? = some (.cells #[.int .i64 (lx : Int), .int .u64 (px : Int), .int .i64 cx] 69 (0, 0)) := by rw [hbY.block B (Nat.lt_of_lt_of_le hBX ho4.size), ho4.block B hBX]; exact HX0.out.1
          have HCY : Hid (∀ W, Below Y0.heap.size Y0 W → (W.cell? ⟨B, 0, none⟩ = some (.int .i64 (lx : Int)) ∧ W.cell? ⟨B, 1, none⟩ = some (.int .u64 (px : Int)) ∧ W.cell? ⟨B, 2, none⟩ = some (.int .i64 cx)) ∧ (W.cell? ⟨G, 0, none⟩ = some (.int .i64 (ly : Int)) ∧ W.cell? ⟨G, 1, none⟩ = some (.int .u64 (py : Int)) ∧ W.cell? ⟨G, 2, none⟩ = some (.int .i64 cy))) := Lib.hid fun W hb => by
            have e1 := (hb.block B (lt_of_heap hxb)).trans hxb
            have e2 := (hb.block G (lt_of_heap hyb)).trans hyb
            refine ⟨⟨?_, ?_, ?_⟩, ?_, ?_, ?_⟩
            · rw [cell_of_row _ _ _ _ _ _ e1]; rfl
            · rw [cell_of_row _ _ _ _ _ _ e1]; rfl
            · rw [cell_of_row _ _ _ _ _ _ e1]; rfl
            · rw [cell_of_row _ _ _ _ _ _ e2]; rfl
            · rw [cell_of_row _ _ _ _ _ _ e2]; rfl
            · rw [cell_of_row _ _ _ _ _ _ e2]; rfl
          have HO := Lib.hid (And.intro ho1 (And.intro ho2 (And.intro (ho3.below hbY) (ho4.trans (hbY.mono ho4.size)))))
          have HYB := Lib.hid (And.intro hyb (show ∀ b, vo.ownBlock = some b → b < G from fun b hb => by have := (ho3.lt b hb).2; omega))
          have hw642 : IntKind.i64.wrap ((j2 : Int) + 1) = (j2 : Int) + 1 := by have := HL.out; have := HRM.out.2.2.1; rw [IntKind.wrap_i64]; omega
          have HKY := Lib.hid KY
          obtain ⟨vao, vco, rfl, _⟩ := ho3.form
          have hS := HCY.out Y0.drew ⟨rfl, rfl, rfl, Nat.le_refl _, fun _ _ => rfl⟩
          clear hv hgm r0 r1 r2 ho1 ho2 ho3 ho4 hbwv hyn KY hly hpy hcy hgy hyb hbY hBX hxb HS hy
          obtain ⟨V2, rfl⟩ : ∃ x, x = wr := ⟨_, rfl⟩
          go_wp2_with fail
          (try rw [hG])
          (try rw [hY0])
          have HBV : Hid (Below Y0.heap.size Y0 Y0.drew) := Lib.hid ⟨rfl, rfl, rfl, Nat.le_refl _, fun _ _ => rfl⟩
          cases dn
          · by_cases c1 : gx < gy
            · have tt : decide ((gx : Int) < (gy : Int)) = true := decide_eq_true (by omega)
              have hcond : gx < gy ∨ gx = gy ∧ lx < ly := .inl c1
              refine wp_region_mix (fun W => (W.cell? ⟨B, 0, none⟩ = some (.int .i64 (lx : Int)) ∧ W.cell? ⟨B, 1, none⟩ = some (.int .u64 (px : Int)) ∧ W.cell? ⟨B, 2, none⟩ = some (.int .i64 cx)) ∧ (W.cell? ⟨G, 0, none⟩ = some (.int .i64 (ly : Int)) ∧ W.cell? ⟨G, 1, none⟩ = some (.int .u64 (py : Int)) ∧ W.cell? ⟨G, 2, none⟩ = some (.int .i64 cy))) 23 [(true, 0), (true, 1), (true, 2), (true, 3), (true, 5), (false, 4), (false, 6), (true, 7), (true, 8), (true, 9), (true, 11), (false, 10), (false, 12), (true, 13), (true, 14), (true, 15), (true, 16), (true, 17), (true, 18), (true, 19), (true, 20), (true, 21), (true, 22)] (by kernel_rfl) (by decide +kernel) rfl (by decide +kernel) hS ?_
              iterate 5
                refine wpMix_take (v := ?_) rfl rfl ?_ ?_
                rotate_left
                · (intro W hW; obtain ⟨⟨hW1, hW2, hW3⟩, hW4, hW5, hW6⟩ := hW; go_simp) <;> with_reducible rfl
                simp only [Act.put, List.setIfInBounds_toArray, List.set_cons_zero, List.set_cons_succ]
              refine wpMix_run rfl ?_
              intro K hK
              go_wp2_with fail
              refine (HKX.out _).mono ?_
              rintro e Z1 ⟨rfl, hbz⟩
              replace HBV := Lib.hid (HBV.out.trans (hbz.mono HBV.out.size))
              clear hbz
              go_wp2_with fail
              refine hK.out _ _ (fun _ => HCY.out _ HBV.out) ?_
              clear hK K
              refine wpMix_run rfl ?_
              intro K hK
              go_wp2_with fail
              refine (HKY.out _).mono ?_
              rintro e Z2 ⟨rfl, hbz⟩
              replace HBV := Lib.hid (HBV.out.trans (hbz.mono HBV.out.size))
              clear hbz
              go_wp2_with fail
              refine hK.out _ _ (fun _ => HCY.out _ HBV.out) ?_
              clear hK K
              iterate 2
                refine wpMix_take (v := ?_) rfl rfl ?_ ?_
                rotate_left
                · (intro W hW; obtain ⟨⟨hW1, hW2, hW3⟩, hW4, hW5, hW6⟩ := hW; go_simp) <;> with_reducible rfl
                simp only [Act.put, List.setIfInBounds_toArray, List.set_cons_zero, List.set_cons_succ]
              iterate 2
                refine wpMix_skip rfl rfl ?_
                simp only [Act.put, List.setIfInBounds_toArray, List.set_cons_zero, List.set_cons_succ]
              refine wpMix_run rfl ?_
              intro K hK
              go_wp2_with fail
              refine hK.out _ _ (fun _ => HCY.out _ HBV.out) ?_
              clear hK K
              refine wpMix_run rfl ?_
              intro K hK
              go_wp2_with fail
              refine hK.out _ _ (fun _ => HCY.out _ HBV.out) ?_
              clear hK K
              iterate 8
                refine wpMix_skip rfl rfl ?_
                simp only [Act.put, List.setIfInBounds_toArray, List.set_cons_zero, List.set_cons_succ]
              iterate 2
                refine wpMix_take (v := ?_) rfl rfl ?_ ?_
                rotate_left
                · (intro W hW; obtain ⟨⟨hW1, hW2, hW3⟩, hW4, hW5, hW6⟩ := hW; go_simp) <;> with_reducible rfl
                simp only [Act.put, List.setIfInBounds_toArray, List.set_cons_zero, List.set_cons_succ]
              have hif : insS x (out, false) y = ((out ++ [x]) ++ [y], true) := by unfold insS; rw [if_pos ⟨rfl, by rw [hLT]; simpa using hcond⟩]
              obtain ⟨f0, f1, f2⟩ := (HCY.out _ HBV.out).1
              have hYG := lt_of_heap HYB.out.1
              have hGV := Nat.lt_of_lt_of_le hYG HBV.out.size
              obtain ⟨v4, w4, r4, o4⟩ := (HO.out.2.2.1.below HBV.out).push (Nat.le_trans HO.out.2.2.2.size HBV.out.size) x (by have := HO.out.2.1; have := HL.out; have := HRM.out.2.2.1; omega)
              rw [HXP.out.2.1, HXP.out.2.2.1, HXP.out.2.2.2.1] at r4
              have hy4 : w4.heap[G]? = some (.cells #[.int .i64 (ly : Int), .int .u64 (py : Int), .int .i64 cy] 69 (0, 0)) := (o4.out.2.2.1 G hGV (fun e => by have := HYB.out.2 G e; omega)).trans ((HBV.out.block G hYG).trans HYB.out.1)
              have g0 : w4.cell? ⟨G, 0, none⟩ = some (.int .i64 (ly : Int)) := by rw [cell_of_row _ _ _ _ _ _ hy4]; rfl
              have g1 : w4.cell? ⟨G, 1, none⟩ = some (.int .u64 (py : Int)) := by rw [cell_of_row _ _ _ _ _ _ hy4]; rfl
              have g2 : w4.cell? ⟨G, 2, none⟩ = some (.int .i64 cy) := by rw [cell_of_row _ _ _ _ _ _ hy4]; rfl
              have hb4 := (HO.out.2.2.2.trans (HBV.out.mono HO.out.2.2.2.size)).trans o4.out.2.1
              obtain ⟨v5, w5, r5, o5⟩ := o4.out.1.push hb4.size y (by have := HO.out.2.1; have := HL.out; have := HRM.out.2.2.1; rw [List.length_append]; simp; omega)
              rw [HYP.out.2.1, HYP.out.2.2.1, HYP.out.2.2.2.1] at r5
              have HN : Hid (InSt X0 x M (j2 + 1) v5 true w5) := Lib.hid (InSt.step HYP.out.1 HO.out.1 hif HO.out.2.1 o5.out.1 (hb4.trans o5.out.2.1))
              obtain ⟨va4, vc4, hv4, _⟩ := o4.out.1.form
              obtain ⟨n4, hn4⟩ : ∃ n4, (out ++ [x]).length = n4 := ⟨_, rfl⟩
              rw [hn4] at hv4
              subst hv4
              have H4 := r4
              have H5 := r5
              generalize out.length = ol at *
              clear hif hYG hGV o4 o5 hy4 hb4 hn4 r4 r5
              refine wpMix_nil ?_
              go_wp2_with (at_builtin; first | (refine wpList_append_run rfl _ _ 39 rfl rfl rfl (H4.out _) ?_; clear H4) | (refine wpList_append_run rfl _ _ 39 rfl rfl rfl (H5.out _) ?_))
              go_roundw
              case rel => exact ⟨v5, true, j2 + 1, rfl, rfl, by go_num, hlt2, HN⟩
              case measure => simp [intOf]; omega
            · have tt : decide ((gx : Int) < (gy : Int)) = false := decide_eq_false (by omega)
              by_cases c2 : gx = gy
              · have te : ((gx : Int) == (gy : Int)) = true := by simp [c2]
                by_cases c3 : lx < ly
                · have tl : decide ((lx : Int) < (ly : Int)) = true := decide_eq_true (by omega)
                  have hcond : gx < gy ∨ gx = gy ∧ lx < ly := .inr ⟨c2, c3⟩
                  refine wp_region_mix (fun W => (W.cell? ⟨B, 0, none⟩ = some (.int .i64 (lx : Int)) ∧ W.cell? ⟨B, 1, none⟩ = some (.int .u64 (px : Int)) ∧ W.cell? ⟨B, 2, none⟩ = some (.int .i64 cx)) ∧ (W.cell? ⟨G, 0, none⟩ = some (.int .i64 (ly : Int)) ∧ W.cell? ⟨G, 1, none⟩ = some (.int .u64 (py : Int)) ∧ W.cell? ⟨G, 2, none⟩ = some (.int .i64 cy))) 23 [(true, 0), (true, 1), (true, 2), (true, 3), (true, 5), (false, 4), (false, 6), (true, 7), (true, 8), (true, 9), (true, 11), (false, 10), (false, 12), (true, 13), (true, 14), (true, 15), (true, 16), (true, 17), (true, 18), (true, 19), (true, 20), (true, 21), (true, 22)] (by kernel_rfl) (by decide +kernel) rfl (by decide +kernel) hS ?_
                  iterate 5
                    refine wpMix_take (v := ?_) rfl rfl ?_ ?_
                    rotate_left
                    · (intro W hW; obtain ⟨⟨hW1, hW2, hW3⟩, hW4, hW5, hW6⟩ := hW; go_simp) <;> with_reducible rfl
                    simp only [Act.put, List.setIfInBounds_toArray, List.set_cons_zero, List.set_cons_succ]
                  refine wpMix_run rfl ?_
                  intro K hK
                  go_wp2_with fail
                  refine (HKX.out _).mono ?_
                  rintro e Z3 ⟨rfl, hbz⟩
                  replace HBV := Lib.hid (HBV.out.trans (hbz.mono HBV.out.size))
                  clear hbz
                  go_wp2_with fail
                  refine hK.out _ _ (fun _ => HCY.out _ HBV.out) ?_
                  clear hK K
                  refine wpMix_run rfl ?_
                  intro K hK
                  go_wp2_with fail
                  refine (HKY.out _).mono ?_
                  rintro e Z4 ⟨rfl, hbz⟩
                  replace HBV := Lib.hid (HBV.out.trans (hbz.mono HBV.out.size))
                  clear hbz
                  go_wp2_with fail
                  refine hK.out _ _ (fun _ => HCY.out _ HBV.out) ?_
                  clear hK K
                  iterate 4
                    refine wpMix_take (v := ?_) rfl rfl ?_ ?_
                    rotate_left
                    · (intro W hW; obtain ⟨⟨hW1, hW2, hW3⟩, hW4, hW5, hW6⟩ := hW; go_simp) <;> with_reducible rfl
                    simp only [Act.put, List.setIfInBounds_toArray, List.set_cons_zero, List.set_cons_succ]
                  refine wpMix_run rfl ?_
                  intro K hK
                  go_wp2_with fail
                  refine (HKX.out _).mono ?_
                  rintro e Z5 ⟨rfl, hbz⟩
                  replace HBV := Lib.hid (HBV.out.trans (hbz.mono HBV.out.size))
                  clear hbz
                  go_wp2_with fail
                  refine hK.out _ _ (fun _ => HCY.out _ HBV.out) ?_
                  clear hK K
                  refine wpMix_run rfl ?_
                  intro K hK
                  go_wp2_with fail
                  refine (HKY.out _).mono ?_
                  rintro e Z6 ⟨rfl, hbz⟩
                  replace HBV := Lib.hid (HBV.out.trans (hbz.mono HBV.out.size))
                  clear hbz
                  go_wp2_with fail
                  refine hK.out _ _ (fun _ => HCY.out _ HBV.out) ?_
                  clear hK K
                  iterate 10
                    refine wpMix_take (v := ?_) rfl rfl ?_ ?_
                    rotate_left
                    · (intro W hW; obtain ⟨⟨hW1, hW2, hW3⟩, hW4, hW5, hW6⟩ := hW; go_simp) <;> with_reducible rfl
                    simp only [Act.put, List.setIfInBounds_toArray, List.set_cons_zero, List.set_cons_succ]
                  have hif : insS x (out, false) y = ((out ++ [x]) ++ [y], true) := by unfold insS; rw [if_pos ⟨rfl, by rw [hLT]; simpa using hcond⟩]
                  obtain ⟨f0, f1, f2⟩ := (HCY.out _ HBV.out).1
                  have hYG := lt_of_heap HYB.out.1
                  have hGV := Nat.lt_of_lt_of_le hYG HBV.out.size
                  obtain ⟨v4, w4, r4, o4⟩ := (HO.out.2.2.1.below HBV.out).push (Nat.le_trans HO.out.2.2.2.size HBV.out.size) x (by have := HO.out.2.1; have := HL.out; have := HRM.out.2.2.1; omega)
                  rw [HXP.out.2.1, HXP.out.2.2.1, HXP.out.2.2.2.1] at r4
                  have hy4 : w4.heap[G]? = some (.cells #[.int .i64 (ly : Int), .int .u64 (py : Int), .int .i64 cy] 69 (0, 0)) := (o4.out.2.2.1 G hGV (fun e => by have := HYB.out.2 G e; omega)).trans ((HBV.out.block G hYG).trans HYB.out.1)
                  have g0 : w4.cell? ⟨G, 0, none⟩ = some (.int .i64 (ly : Int)) := by rw [cell_of_row _ _ _ _ _ _ hy4]; rfl
                  have g1 : w4.cell? ⟨G, 1, none⟩ = some (.int .u64 (py : Int)) := by rw [cell_of_row _ _ _ _ _ _ hy4]; rfl
                  have g2 : w4.cell? ⟨G, 2, none⟩ = some (.int .i64 cy) := by rw [cell_of_row _ _ _ _ _ _ hy4]; rfl
                  have hb4 := (HO.out.2.2.2.trans (HBV.out.mono HO.out.2.2.2.size)).trans o4.out.2.1
                  obtain ⟨v5, w5, r5, o5⟩ := o4.out.1.push hb4.size y (by have := HO.out.2.1; have := HL.out; have := HRM.out.2.2.1; rw [List.length_append]; simp; omega)
                  rw [HYP.out.2.1, HYP.out.2.2.1, HYP.out.2.2.2.1] at r5
                  have HN : Hid (InSt X0 x M (j2 + 1) v5 true w5) := Lib.hid (InSt.step HYP.out.1 HO.out.1 hif HO.out.2.1 o5.out.1 (hb4.trans o5.out.2.1))
                  obtain ⟨va4, vc4, hv4, _⟩ := o4.out.1.form
                  obtain ⟨n4, hn4⟩ : ∃ n4, (out ++ [x]).length = n4 := ⟨_, rfl⟩
                  rw [hn4] at hv4
                  subst hv4
                  have H4 := r4
                  have H5 := r5
                  generalize out.length = ol at *
                  clear hif hYG hGV o4 o5 hy4 hb4 hn4 r4 r5
                  refine wpMix_nil ?_
                  go_wp2_with (at_builtin; first | (refine wpList_append_run rfl _ _ 39 rfl rfl rfl (H4.out _) ?_; clear H4) | (refine wpList_append_run rfl _ _ 39 rfl rfl rfl (H5.out _) ?_))
                  go_roundw
                  case rel => exact ⟨v5, true, j2 + 1, rfl, rfl, by go_num, hlt2, HN⟩
                  case measure => simp [intOf]; omega
                · have tl : decide ((lx : Int) < (ly : Int)) = false := decide_eq_false (by omega)
                  have hcond : ¬ (gx < gy ∨ gx = gy ∧ lx < ly) := by omega
                  refine wp_region_mix (fun W => (W.cell? ⟨B, 0, none⟩ = some (.int .i64 (lx : Int)) ∧ W.cell? ⟨B, 1, none⟩ = some (.int .u64 (px : Int)) ∧ W.cell? ⟨B, 2, none⟩ = some (.int .i64 cx)) ∧ (W.cell? ⟨G, 0, none⟩ = some (.int .i64 (ly : Int)) ∧ W.cell? ⟨G, 1, none⟩ = some (.int .u64 (py : Int)) ∧ W.cell? ⟨G, 2, none⟩ = some (.int .i64 cy))) 23 [(true, 0), (true, 1), (true, 2), (true, 3), (true, 5), (false, 4), (false, 6), (true, 7), (true, 8), (true, 9), (true, 11), (false, 10), (false, 12), (true, 13), (true, 14), (true, 15), (true, 16), (true, 17), (true, 18), (true, 19), (true, 20), (true, 21), (true, 22)] (by kernel_rfl) (by decide +kernel) rfl (by decide +kernel) hS ?_
                  iterate 5
                    refine wpMix_take (v := ?_) rfl rfl ?_ ?_
                    rotate_left
                    · (intro W hW; obtain ⟨⟨hW1, hW2, hW3⟩, hW4, hW5, hW6⟩ := hW; go_simp) <;> with_reducible rfl
                    simp only [Act.put, List.setIfInBounds_toArray, List.set_cons_zero, List.set_cons_succ]
                  refine wpMix_run rfl ?_
                  intro K hK
                  go_wp2_with fail
                  refine (HKX.out _).mono ?_
                  rintro e Z7 ⟨rfl, hbz⟩
                  replace HBV := Lib.hid (HBV.out.trans (hbz.mono HBV.out.size))
                  clear hbz
                  go_wp2_with fail
                  refine hK.out _ _ (fun _ => HCY.out _ HBV.out) ?_
                  clear hK K
                  refine wpMix_run rfl ?_
                  intro K hK
                  go_wp2_with fail
                  refine (HKY.out _).mono ?_
                  rintro e Z8 ⟨rfl, hbz⟩
                  replace HBV := Lib.hid (HBV.out.trans (hbz.mono HBV.out.size))
                  clear hbz
                  go_wp2_with fail
                  refine hK.out _ _ (fun _ => HCY.out _ HBV.out) ?_
                  clear hK K
                  iterate 4
                    refine wpMix_take (v := ?_) rfl rfl ?_ ?_
                    rotate_left
                    · (intro W hW; obtain ⟨⟨hW1, hW2, hW3⟩, hW4, hW5, hW6⟩ := hW; go_simp) <;> with_reducible rfl
                    simp only [Act.put, List.setIfInBounds_toArray, List.set_cons_zero, List.set_cons_succ]
                  refine wpMix_run rfl ?_
                  intro K hK
                  go_wp2_with fail
                  refine (HKX.out _).mono ?_
                  rintro e Z9 ⟨rfl, hbz⟩
                  replace HBV := Lib.hid (HBV.out.trans (hbz.mono HBV.out.size))
                  clear hbz
                  go_wp2_with fail
                  refine hK.out _ _ (fun _ => HCY.out _ HBV.out) ?_
                  clear hK K
                  refine wpMix_run rfl ?_
                  intro K hK
                  go_wp2_with fail
                  refine (HKY.out _).mono ?_
                  rintro e Z10 ⟨rfl, hbz⟩
                  replace HBV := Lib.hid (HBV.out.trans (hbz.mono HBV.out.size))
                  clear hbz
                  go_wp2_with fail
                  refine hK.out _ _ (fun _ => HCY.out _ HBV.out) ?_
                  clear hK K
                  iterate 10
                    refine wpMix_take (v := ?_) rfl rfl ?_ ?_
                    rotate_left
                    · (intro W hW; obtain ⟨⟨hW1, hW2, hW3⟩, hW4, hW5, hW6⟩ := hW; go_simp) <;> with_reducible rfl
                    simp only [Act.put, List.setIfInBounds_toArray, List.set_cons_zero, List.set_cons_succ]
                  have hif : insS x (out, false) y = (out ++ [y], false) := by unfold insS; rw [if_neg (by rw [hLT]; simpa using hcond)]
                  obtain ⟨g0, g1, g2⟩ := (HCY.out _ HBV.out).2
                  obtain ⟨v5, w5, r5, o5⟩ := (HO.out.2.2.1.below HBV.out).push (Nat.le_trans HO.out.2.2.2.size HBV.out.size) y (by have := HO.out.2.1; have := HL.out; have := HRM.out.2.2.1; omega)
                  rw [HYP.out.2.1, HYP.out.2.2.1, HYP.out.2.2.2.1] at r5
                  have HN : Hid (InSt X0 x M (j2 + 1) v5 false w5) := Lib.hid (InSt.step HYP.out.1 HO.out.1 hif HO.out.2.1 o5.out.1 ((HO.out.2.2.2.trans (HBV.out.mono HO.out.2.2.2.size)).trans o5.out.2.1))
                  have H5 := r5
                  generalize out.length = ol at *
                  clear hif o5 r5
                  refine wpMix_nil ?_
                  go_wp2_with (at_builtin; refine wpList_append_run rfl _ _ 39 rfl rfl rfl (H5.out _) ?_)
                  go_roundw
                  case rel => exact ⟨v5, false, j2 + 1, rfl, rfl, by go_num, hlt2, HN⟩
                  case measure => simp [intOf]; omega
              · have te : ((gx : Int) == (gy : Int)) = false := by simp; omega
                have hcond : ¬ (gx < gy ∨ gx = gy ∧ lx < ly) := by omega
                refine wp_region_mix (fun W => (W.cell? ⟨B, 0, none⟩ = some (.int .i64 (lx : Int)) ∧ W.cell? ⟨B, 1, none⟩ = some (.int .u64 (px : Int)) ∧ W.cell? ⟨B, 2, none⟩ = some (.int .i64 cx)) ∧ (W.cell? ⟨G, 0, none⟩ = some (.int .i64 (ly : Int)) ∧ W.cell? ⟨G, 1, none⟩ = some (.int .u64 (py : Int)) ∧ W.cell? ⟨G, 2, none⟩ = some (.int .i64 cy))) 23 [(true, 0), (true, 1), (true, 2), (true, 3), (true, 5), (false, 4), (false, 6), (true, 7), (true, 8), (true, 9), (true, 11), (false, 10), (false, 12), (true, 13), (true, 14), (true, 15), (true, 16), (true, 17), (true, 18), (true, 19), (true, 20), (true, 21), (true, 22)] (by kernel_rfl) (by decide +kernel) rfl (by decide +kernel) hS ?_
                iterate 5
                  refine wpMix_take (v := ?_) rfl rfl ?_ ?_
                  rotate_left
                  · (intro W hW; obtain ⟨⟨hW1, hW2, hW3⟩, hW4, hW5, hW6⟩ := hW; go_simp) <;> with_reducible rfl
                  simp only [Act.put, List.setIfInBounds_toArray, List.set_cons_zero, List.set_cons_succ]
                refine wpMix_run rfl ?_
                intro K hK
                go_wp2_with fail
                refine (HKX.out _).mono ?_
                rintro e Z11 ⟨rfl, hbz⟩
                replace HBV := Lib.hid (HBV.out.trans (hbz.mono HBV.out.size))
                clear hbz
                go_wp2_with fail
                refine hK.out _ _ (fun _ => HCY.out _ HBV.out) ?_
                clear hK K
                refine wpMix_run rfl ?_
                intro K hK
                go_wp2_with fail
                refine (HKY.out _).mono ?_
                rintro e Z12 ⟨rfl, hbz⟩
                replace HBV := Lib.hid (HBV.out.trans (hbz.mono HBV.out.size))
                clear hbz
                go_wp2_with fail
                refine hK.out _ _ (fun _ => HCY.out _ HBV.out) ?_
                clear hK K
                iterate 4
                  refine wpMix_take (v := ?_) rfl rfl ?_ ?_
                  rotate_left
                  · (intro W hW; obtain ⟨⟨hW1, hW2, hW3⟩, hW4, hW5, hW6⟩ := hW; go_simp) <;> with_reducible rfl
                  simp only [Act.put, List.setIfInBounds_toArray, List.set_cons_zero, List.set_cons_succ]
                refine wpMix_run rfl ?_
                intro K hK
                go_wp2_with fail
                refine (HKX.out _).mono ?_
                rintro e Z13 ⟨rfl, hbz⟩
                replace HBV := Lib.hid (HBV.out.trans (hbz.mono HBV.out.size))
                clear hbz
                go_wp2_with fail
                refine hK.out _ _ (fun _ => HCY.out _ HBV.out) ?_
                clear hK K
                refine wpMix_run rfl ?_
                intro K hK
                go_wp2_with fail
                refine (HKY.out _).mono ?_
                rintro e Z14 ⟨rfl, hbz⟩
                replace HBV := Lib.hid (HBV.out.trans (hbz.mono HBV.out.size))
                clear hbz
                go_wp2_with fail
                refine hK.out _ _ (fun _ => HCY.out _ HBV.out) ?_
                clear hK K
                iterate 2
                  refine wpMix_take (v := ?_) rfl rfl ?_ ?_
                  rotate_left
                  · (intro W hW; obtain ⟨⟨hW1, hW2, hW3⟩, hW4, hW5, hW6⟩ := hW; go_simp) <;> with_reducible rfl
                  simp only [Act.put, List.setIfInBounds_toArray, List.set_cons_zero, List.set_cons_succ]
                iterate 5
                  refine wpMix_skip rfl rfl ?_
                  simp only [Act.put, List.setIfInBounds_toArray, List.set_cons_zero, List.set_cons_succ]
                iterate 3
                  refine wpMix_take (v := ?_) rfl rfl ?_ ?_
                  rotate_left
                  · (intro W hW; obtain ⟨⟨hW1, hW2, hW3⟩, hW4, hW5, hW6⟩ := hW; go_simp) <;> with_reducible rfl
                  simp only [Act.put, List.setIfInBounds_toArray, List.set_cons_zero, List.set_cons_succ]
                have hif : insS x (out, false) y = (out ++ [y], false) := by unfold insS; rw [if_neg (by rw [hLT]; simpa using hcond)]
                obtain ⟨g0, g1, g2⟩ := (HCY.out _ HBV.out).2
                obtain ⟨v5, w5, r5, o5⟩ := (HO.out.2.2.1.below HBV.out).push (Nat.le_trans HO.out.2.2.2.size HBV.out.size) y (by have := HO.out.2.1; have := HL.out; have := HRM.out.2.2.1; omega)
                rw [HYP.out.2.1, HYP.out.2.2.1, HYP.out.2.2.2.1] at r5
                have HN : Hid (InSt X0 x M (j2 + 1) v5 false w5) := Lib.hid (InSt.step HYP.out.1 HO.out.1 hif HO.out.2.1 o5.out.1 ((HO.out.2.2.2.trans (HBV.out.mono HO.out.2.2.2.size)).trans o5.out.2.1))
                have H5 := r5
                generalize out.length = ol at *
                clear hif o5 r5
                refine wpMix_nil ?_
                go_wp2_with (at_builtin; refine wpList_append_run rfl _ _ 39 rfl rfl rfl (H5.out _) ?_)
                go_roundw
                case rel => exact ⟨v5, false, j2 + 1, rfl, rfl, by go_num, hlt2, HN⟩
                case measure => simp [intOf]; omega
          · skip
            refine wp_region_mix (fun W => (W.cell? ⟨B, 0, none⟩ = some (.int .i64 (lx : Int)) ∧ W.cell? ⟨B, 1, none⟩ = some (.int .u64 (px : Int)) ∧ W.cell? ⟨B, 2, none⟩ = some (.int .i64 cx)) ∧ (W.cell? ⟨G, 0, none⟩ = some (.int .i64 (ly : Int)) ∧ W.cell? ⟨G, 1, none⟩ = some (.int .u64 (py : Int)) ∧ W.cell? ⟨G, 2, none⟩ = some (.int .i64 cy))) 23 [(true, 0), (true, 1), (true, 2), (true, 3), (true, 5), (false, 4), (false, 6), (true, 7), (true, 8), (true, 9), (true, 11), (false, 10), (false, 12), (true, 13), (true, 14), (true, 15), (true, 16), (true, 17), (true, 18), (true, 19), (true, 20), (true, 21), (true, 22)] (by kernel_rfl) (by decide +kernel) rfl (by decide +kernel) hS ?_
            iterate 3
              refine wpMix_take (v := ?_) rfl rfl ?_ ?_
              rotate_left
              · (intro W hW; obtain ⟨⟨hW1, hW2, hW3⟩, hW4, hW5, hW6⟩ := hW; go_simp) <;> with_reducible rfl
              simp only [Act.put, List.setIfInBounds_toArray, List.set_cons_zero, List.set_cons_succ]
            iterate 2
              refine wpMix_skip rfl rfl ?_
              simp only [Act.put, List.setIfInBounds_toArray, List.set_cons_zero, List.set_cons_succ]
            refine wpMix_run rfl ?_
            intro K hK
            go_wp2_with fail
            refine hK.out _ _ (fun _ => HCY.out _ HBV.out) ?_
            clear hK K
            refine wpMix_run rfl ?_
            intro K hK
            go_wp2_with fail
            refine hK.out _ _ (fun _ => HCY.out _ HBV.out) ?_
            clear hK K
            iterate 4
              refine wpMix_skip rfl rfl ?_
              simp only [Act.put, List.setIfInBounds_toArray, List.set_cons_zero, List.set_cons_succ]
            refine wpMix_run rfl ?_
            intro K hK
            go_wp2_with fail
            refine hK.out _ _ (fun _ => HCY.out _ HBV.out) ?_
            clear hK K
            refine wpMix_run rfl ?_
            intro K hK
            go_wp2_with fail
            refine hK.out _ _ (fun _ => HCY.out _ HBV.out) ?_
            clear hK K
            iterate 9
              refine wpMix_skip rfl rfl ?_
              simp only [Act.put, List.setIfInBounds_toArray, List.set_cons_zero, List.set_cons_succ]
            iterate 1
              refine wpMix_take (v := ?_) rfl rfl ?_ ?_
              rotate_left
              · (intro W hW; obtain ⟨⟨hW1, hW2, hW3⟩, hW4, hW5, hW6⟩ := hW; go_simp) <;> with_reducible rfl
              simp only [Act.put, List.setIfInBounds_toArray, List.set_cons_zero, List.set_cons_succ]
            have hif : insS x (out, true) y = (out ++ [y], true) := by unfold insS; rw [if_neg (by simp)]
            obtain ⟨g0, g1, g2⟩ := (HCY.out _ HBV.out).2
            obtain ⟨v5, w5, r5, o5⟩ := (HO.out.2.2.1.below HBV.out).push (Nat.le_trans HO.out.2.2.2.size HBV.out.size) y (by have := HO.out.2.1; have := HL.out; have := HRM.out.2.2.1; omega)
            rw [HYP.out.2.1, HYP.out.2.2.1, HYP.out.2.2.2.1] at r5
            have HN : Hid (InSt X0 x M (j2 + 1) v5 true w5) := Lib.hid (InSt.step HYP.out.1 HO.out.1 hif HO.out.2.1 o5.out.1 ((HO.out.2.2.2.trans (HBV.out.mono HO.out.2.2.2.size)).trans o5.out.2.1))
            have H5 := r5
            generalize out.length = ol at *
            clear hif o5 r5
            refine wpMix_nil ?_
            go_wp2_with (at_builtin; refine wpList_append_run rfl _ _ 39 rfl rfl rfl (H5.out _) ?_)
            go_roundw
            case rel => exact ⟨v5, true, j2 + 1, rfl, rfl, by go_num, hlt2, HN⟩
            case measure => simp [intOf]; omega
        · obtain rfl : j2 = M.length := by omega
          obtain ⟨out, ho1, ho2, ho3, ho4⟩ := HS.out
          rw [List.take_length] at ho1
          have hbwv : Below w.heap.size w wr := HRM.out.2.2.2.2.trans ((HX0.out.2.trans (ho4.mono HX0.out.2.size)).mono HRM.out.2.2.2.2.size)
          have hBX : B < X0.heap.size := lt_of_heap HX0.out.1
          have hxb : wr.heap[B]? = some (.cells #[.int .i64 (lx : Int), .int .u64 (px : Int), .int .i64 cx] 69 (0, 0)) := by rw [ho4.block B hBX]; exact HX0.out.1
          have hX0w : w.heap.size ≤ X0.heap.size := Nat.le_trans HRM.out.2.2.2.2.size HX0.out.2.size
          have hft : (L.take (j + 1)).foldl (fun l x => insT x l) [] = insT x M := by rw [dtake_more HXP.out.1, List.foldl_append, HRM.out.2.1]; rfl
          cases dn
          · have f0 : wr.cell? ⟨B, 0, none⟩ = some (.int .i64 (lx : Int)) := by rw [cell_of_row _ _ _ _ _ _ hxb]; rfl
            have f1 : wr.cell? ⟨B, 1, none⟩ = some (.int .u64 (px : Int)) := by rw [cell_of_row _ _ _ _ _ _ hxb]; rfl
            have f2 : wr.cell? ⟨B, 2, none⟩ = some (.int .i64 cx) := by rw [cell_of_row _ _ _ _ _ _ hxb]; rfl
            obtain ⟨v4, w4, r4, o4⟩ := ho3.push ho4.size x (by have := HL.out; have := HRM.out.2.2.1; omega)
            rw [HXP.out.2.1, HXP.out.2.2.1, HXP.out.2.2.2.1] at r4
            have hins : out ++ [x] = insT x M := by rw [← insF_eq, ho1]; rfl
            have HN : Hid (RkSt w L (j + 1) v4 w4) := Lib.hid (by
              refine ⟨?_, hbwv.trans (o4.out.2.1.mono hX0w)⟩
              rw [hft, ← hins]
              exact rebaseQ o4.out.1 fun g hg => Nat.le_trans hX0w (ownsRow_ge o4.out.1 g hg))
            obtain ⟨vao, vco, rfl, _⟩ := ho3.form
            have H4 := r4
            generalize out.length = ol at *
            clear ho1 ho2 ho3 ho4 hbwv hBX hxb hX0w hft hins o4 r4 HS
            go_wp2_with (at_builtin; refine wpList_append_run rfl _ _ 39 rfl rfl rfl (H4.out _) ?_)
            go_roundw
            case rel => exact ⟨v4, j + 1, rfl, by go_num, hlt, HN⟩
            case measure => simp [intOf]; omega
          · have hins : out = insT x M := by rw [← insF_eq, ho1]; rfl
            have HN : Hid (RkSt w L (j + 1) vo wr) := Lib.hid (by
              refine ⟨?_, hbwv⟩
              rw [hft, ← hins]
              exact rebaseQ ho3 fun g hg => Nat.le_trans hX0w (ownsRow_ge ho3 g hg))
            obtain ⟨vao, vco, rfl, _⟩ := ho3.form
            generalize out.length = ol at *
            clear ho1 ho2 ho3 ho4 hbwv hBX hxb hX0w hft hins HS
            go_wp2_with fail
            go_roundw
            case rel => exact ⟨_, j + 1, rfl, by go_num, hlt, HN⟩
            case measure => simp [intOf]; omega
    · obtain rfl : j = L.length := by omega
      obtain ⟨hrow, hbw⟩ := HS.out
      rw [List.take_length] at hrow
      obtain ⟨D, hD⟩ : ∃ D, rsort L = D := ⟨_, rfl⟩
      have hrow2 : RowQ w.heap.size v D wr := by rw [← hD]; exact hrow
      have hDl : D.length = L.length := by rw [← hD]; unfold rsort; rw [rsort_len]; simp
      have hRk := rsort_ranked (L := L) HI.out.low
      rw [hD] at hRk
      obtain ⟨vd, vdc, rfl, _⟩ := hrow2.form
      have HD := Lib.hid (And.intro hrow2 (And.intro hDl (And.intro hRk hbw)))
      have HDE := Lib.hid hD
      have hDp : Hid (∀ q ∈ D, 1 ≤ q.2 ∧ q.2 ≤ n ∧ NodeC q.1) := Lib.hid fun q hq => by
        have hm := hRk.perm.mem_iff.1 hq
        have := rqnode_le HI.out.inv hm
        exact ⟨this.1, this.2, HI.out.low q hm⟩
      clear hrow hbw hD hrow2 hDl hRk HS c1 c2
      obtain ⟨V1, rfl⟩ : ∃ x, x = wr := ⟨_, rfl⟩
      go_wp2_with fail
      go_loopw [13, 83] (fun s13 s83 wr => ∃ (j : Nat) (nn : Int), s13 = .int .i64 nn ∧ s83 = .int .i64 j ∧ j ≤ D.length ∧ 0 ≤ nn ∧ nn < r ∧ Hid (rankG D r = rankG (D.drop j) (r - nn)) ∧ Hid (Below V1.heap.size V1 wr)) (fun _ s _ => D.length - (intOf s).toNat)
      case atStart => exact ⟨0, 0, rfl, rfl, Nat.zero_le _, Int.le_refl _, by have := HR.out.1; omega, Lib.hid (by simp), Lib.hid (Below.refl _ _)⟩
      case round =>
        obtain ⟨j, nn, rfl, rfl, hj, hn0, hn1, HG, HW⟩ := hrel
        by_cases hlt : j < D.length
        · have hz : (j : Int) < (D.length : Int) := by omega
          obtain ⟨q, hq⟩ : ∃ q, D[j]? = some q := ⟨_, List.getElem?_eq_getElem hlt⟩
          obtain ⟨gd, cd', hv, hgd, _, r0, r1, r2⟩ := HD.out.1.cell hq
          obtain ⟨rfl, rfl⟩ : vd = some ⟨gd, 0, none⟩ ∧ vdc = cd' := by injection hv with h1 _ h2; exact ⟨h1, h2⟩
          have hqm := hDp.out q (List.mem_of_getElem? hq)
          have x0 : wr.cell? ⟨gd, j * 3, none⟩ = some (.int .i64 ((q.1 / 18446744073709551616 : Nat) : Int)) := by rw [HW.out.cell (World.block_lt_of_cell? V1 _ r0)]; exact r0
          have x1 : wr.cell? ⟨gd, j * 3 + 1, none⟩ = some (.int .u64 ((q.1 % 18446744073709551616 : Nat) : Int)) := by rw [HW.out.cell (World.block_lt_of_cell? V1 _ r1)]; exact r1
          have x2 : wr.cell? ⟨gd, j * 3 + 2, none⟩ = some (.int .i64 q.2) := by rw [HW.out.cell (World.block_lt_of_cell? V1 _ r2)]; exact r2
          have hdrop : D.drop j = q :: D.drop (j + 1) := by
            obtain ⟨hj', e⟩ := List.getElem?_eq_some_iff.1 hq
            rw [List.drop_eq_getElem_cons hj', e]
          rw [hdrop] at HG
          have KQ := KT.out q hqm.2.2
          unfold nodeV at KQ
          have hw64 : IntKind.i64.wrap ((j : Int) + 1) = (j : Int) + 1 := by have := HD.out.2.1; have := HL.out; rw [IntKind.wrap_i64]; omega
          have wnn : IntKind.i64.wrap (nn + q.2) = nn + q.2 := by have := HR.out; have := hqm.2.1; have := hqm.1; rw [IntKind.wrap_i64]; omega
          have hq1 := hqm.1
          by_cases hle : r ≤ nn + q.2
          · have FE : Hid (rankG D r = some (gr q.1)) := Lib.hid (by rw [HG.out]; unfold rankG; rw [if_pos (by omega)])
            have tr : decide (r ≤ nn + q.2) = true := decide_eq_true hle
            have HBW : Hid (∀ W, Below wr.heap.size wr W → Below w.heap.size w W) := Lib.hid fun W hb => HD.out.2.2.2.trans ((HW.out.trans (hb.mono HW.out.size)).mono HD.out.2.2.2.size)
            obtain ⟨lq, hlq⟩ : ∃ lq : Int, ((q.1 / 18446744073709551616 : Nat) : Int) = lq := ⟨_, rfl⟩
            obtain ⟨pq, hpq⟩ : ∃ pq : Int, ((q.1 % 18446744073709551616 : Nat) : Int) = pq := ⟨_, rfl⟩
            obtain ⟨cq, hcq⟩ : ∃ cq : Int, q.2 = cq := ⟨_, rfl⟩
            rw [hlq] at x0 KQ
            rw [hpq] at x1 KQ
            rw [hcq] at x2 KQ wnn tr hle hq1
            have HKQ : Hid (Calls Try.prog 50 #[.agg #[.int .i64 lq, .int .u64 pq, .int .i64 cq]] (wr.alloc (.cells #[.int .i64 lq, .int .u64 pq, .int .i64 cq] 69)) (fun e w' => e = .returned (.int .u64 ((gr q.1 : Nat) : Int)) ∧ Below w.heap.size w w')) := Lib.hid ((KQ _).mono fun e w' h => ⟨h.1, HBW.out _ (((Below.refl _ wr).alloc (Nat.le_refl _) _).trans (h.2.mono (by simp)))⟩)
            clear hv hgd r0 r1 r2 hqm hdrop KQ hlq hpq hcq HG HW hq HBW
            generalize gr q.1 = gq at *
            go_wp2_with fail
            refine HKQ.out.mono ?_
            rintro e w4 ⟨rfl, hb4⟩
            have FW := Lib.hid hb4
            clear HKQ hb4 x0 x1 x2
            go_wp2_with fail
            refine bodyPost_ret (results_tmp2 rfl _ _ _) rfl ?_
            exact ⟨by rw [HDE.out, FE.out]; rfl, FW.out⟩
          · have tr : decide (r ≤ nn + q.2) = false := decide_eq_false hle
            have FG : Hid (rankG D r = rankG (D.drop (j + 1)) (r - (nn + q.2))) := Lib.hid (by rw [HG.out]; show (if r - nn - q.2 ≤ 0 then _ else _) = _; rw [if_neg (by omega), show r - nn - q.2 = r - (nn + q.2) by omega])
            have HA : Hid (Below V1.heap.size V1 (wr.alloc (.cells #[.int .i64 ((q.1 / 18446744073709551616 : Nat) : Int), .int .u64 ((q.1 % 18446744073709551616 : Nat) : Int), .int .i64 q.2] 69))) := Lib.hid (HW.out.alloc HW.out.size _)
            have HJ : Hid (j + 1 ≤ D.length) := Lib.hid hlt
            have b1 : 0 ≤ nn + q.2 := by omega
            have b2 : nn + q.2 < r := by omega
            clear hv hgd r0 r1 r2 hqm hdrop KQ HG HW hq hq1
            generalize ((q.1 / 18446744073709551616 : Nat) : Int) = lq at *
            generalize ((q.1 % 18446744073709551616 : Nat) : Int) = pq at *
            generalize q.2 = cq at *
            go_wp2_with fail
            go_roundw
            case rel => exact ⟨j + 1, nn + cq, rfl, by go_num, HJ.out, b1, b2, FG, HA⟩
            case measure => have := HJ.out; simp [intOf]; omega
        · have hj2 : j = D.length := by omega
          have FE : Hid (rankG D r = none) := Lib.hid (by rw [HG.out, hj2, List.drop_length]; rfl)
          have hz : ¬ (j : Int) < (D.length : Int) := by omega
          have FW : Hid (Below w.heap.size w wr) := Lib.hid (HD.out.2.2.2.trans (HW.out.mono HD.out.2.2.2.size))
          clear HG HW
          go_wp2_with fail
          refine bodyPost_ret (results_tmp2 rfl _ _ _) rfl ?_
          exact ⟨by rw [HDE.out, FE.out]; rfl, FW.out⟩
end Go.Proofs.Ytahaoodklfmddaa
