/- Where and present: the rows that have an id, the ids that are not null. Conditions: none. -/
import Derived.Test.YtbijpjoljljlpaaColA
set_option maxRecDepth 100000
namespace Go.Proofs.Ytbijpjoljljlpaa
open Go.RowKit Go.Maps Go.Sort

/-- a row of ints of one's own -/
def RowI (B : Nat) (v : Value) (L : List Int) (w : World) : Prop := w.ownsRow B 3 1 v L.length (i64s L)
/-- a row of bools of one's own -/
def RowB (B : Nat) (v : Value) (L : List Bool) (w : World) : Prop := w.ownsRow B 4 1 v L.length (bls L)
theorem RowI.holds {B : Nat} {v : Value} {L : List Int} {w : World} (h : RowI B v L w) : Holds w v (i64s L) := Holds.of_row (by rw [i64s_len]; exact h)
theorem RowB.holds {B : Nat} {v : Value} {L : List Bool} {w : World} (h : RowB B v L w) : Holds w v (bls L) := Holds.of_row (by rw [bls_len]; exact h)
theorem RowI.base {A B : Nat} {v : Value} {L : List Int} {w : World} (h : RowI A v L w) (hB : B ≤ A) : RowI B v L w := ownsRow_rebase h (fun g hg => Nat.le_trans hB (h.lt g hg).1)
theorem RowB.base {A B : Nat} {v : Value} {L : List Bool} {w : World} (h : RowB A v L w) (hB : B ≤ A) : RowB B v L w := ownsRow_rebase h (fun g hg => Nat.le_trans hB (h.lt g hg).1)
theorem RowI.below {B : Nat} {v : Value} {L : List Int} {w w' : World} (h : RowI B v L w) (hb : Below w.heap.size w w') : RowI B v L w' := ownsRow_below h hb
theorem RowB.below {B : Nat} {v : Value} {L : List Bool} {w w' : World} (h : RowB B v L w) (hb : Below w.heap.size w w') : RowB B v L w' := ownsRow_below h hb
theorem RowI.nil (B : Nat) (w : World) : RowI B (.slice none 0 0) [] w := World.ownsRow_nil _ _ _ _
theorem RowB.nil (B : Nat) (w : World) : RowB B (.slice none 0 0) [] w := World.ownsRow_nil _ _ _ _
theorem app64' {w : World} {B : Nat} {v : Value} {xs : List Int} (hown : RowI B v xs w) (hB : B ≤ w.heap.size) {sv : Value} {l : List Int} (hs : Holds w sv (i64s l)) (hlen : xs.length + l.length ≤ 17592186044416) :
    ∃ v' w', (∀ ty, (Builtin.append_ #[23, 23] ty #[v, sv]).run Try.prog w = .ok v' w') ∧ RowI B v' (xs ++ l) w' ∧ w.grownBy w' v.ownBlock := by
  obtain ⟨v', w', r, o, g, _⟩ := app_any (P := Try.prog) Try.underlying23 info64 (by omega) rfl (by rw [i64s_len]; exact hown) hB hs (i64s_one l) (by rw [i64s_len, i64s_len]; exact hlen)
  rw [← i64s_append, i64s_len] at o
  exact ⟨v', w', r, o, g⟩
theorem infoB : (Try.prog.info? 4).map (fun i => (i.zero, i.size, i.bytes)) = some (some (.bool false), 1, 1) := by kernel_rfl
theorem appB {w : World} {B : Nat} {v : Value} {xs : List Bool} (hown : RowB B v xs w) (hB : B ≤ w.heap.size) {sv : Value} {l : List Bool} (hs : Holds w sv (bls l)) (hlen : xs.length + l.length ≤ 17592186044416) :
    ∃ v' w', (∀ ty, (Builtin.append_ #[22, 22] ty #[v, sv]).run Try.prog w = .ok v' w') ∧ RowB B v' (xs ++ l) w' ∧ w.grownBy w' v.ownBlock := by
  obtain ⟨v', w', r, o, g, _⟩ := app_any (P := Try.prog) Try.underlying22 infoB (by omega) rfl (by rw [bls_len]; exact hown) hB hs (bls_one l) (by rw [bls_len, bls_len]; exact hlen)
  rw [← bls_append, bls_len] at o
  exact ⟨v', w', r, o, g⟩
/-- one more -/
theorem pushI {B : Nat} {v : Value} {L : List Int} {W : World} (h : RowI B v L W) (hB : B ≤ W.heap.size) (hl : L.length ≤ 1000000) (x : Int) :
    ∃ v' w2, Hid (∀ ty, (Builtin.append_ #[23, 23] ty #[v, .slice (some ⟨W.heap.size, 0, none⟩) 1 1]).run Try.prog (W.alloc (.cells #[.int .i64 x] 3)) = .ok v' w2) ∧ Hid (RowI B v' (L ++ [x]) w2 ∧ Below B W w2) := by
  have hb1 := (Below.refl B W).alloc hB (.cells #[.int .i64 x] 3)
  obtain ⟨v', w', r, o, g⟩ := app64' (h.below (below_box W (.cells #[.int .i64 x] 3))) (Nat.le_trans hB hb1.size) (l := [x]) (Holds.of_heap (alloc1 W _) rfl 1 1 rfl (Nat.le_refl _)) (by simp; omega)
  exact ⟨v', w', Lib.hid r, Lib.hid ⟨o, hb1.grown g (Nat.le_trans hB hb1.size) (fun k e => (h.lt k e).1)⟩⟩
theorem pushB {B : Nat} {v : Value} {L : List Bool} {W : World} (h : RowB B v L W) (hB : B ≤ W.heap.size) (hl : L.length ≤ 1000000) (x : Bool) :
    ∃ v' w2, Hid (∀ ty, (Builtin.append_ #[22, 22] ty #[v, .slice (some ⟨W.heap.size, 0, none⟩) 1 1]).run Try.prog (W.alloc (.cells #[.bool x] 4)) = .ok v' w2) ∧ Hid (RowB B v' (L ++ [x]) w2 ∧ Below B W w2) := by
  have hb1 := (Below.refl B W).alloc hB (.cells #[.bool x] 4)
  obtain ⟨v', w', r, o, g⟩ := appB (h.below (below_box W (.cells #[.bool x] 4))) (Nat.le_trans hB hb1.size) (l := [x]) (Holds.of_heap (alloc1 W _) rfl 1 1 rfl (Nat.le_refl _)) (by simp; omega)
  exact ⟨v', w', Lib.hid r, Lib.hid ⟨o, hb1.grown g (Nat.le_trans hB hb1.size) (fun k e => (h.lt k e).1)⟩⟩
/-- the two cells of a box -/
theorem box2 {w wr : World} {x y : Value} {t : TypeId} (hb : Below (w.heap.size + 1) (w.alloc (.cells #[x, y] t)) wr) : wr.cell? ⟨w.heap.size, 0, none⟩ = some x ∧ wr.cell? ⟨w.heap.size, 1, none⟩ = some y := by
  have h : wr.heap[w.heap.size]? = some (.cells #[x, y] t (0, 0)) := (hb.block _ (by omega)).trans (heap_alloc_new w _)
  exact ⟨by rw [cell_of_row wr _ _ _ _ _ h]; rfl, by rw [cell_of_row wr _ _ _ _ _ h]; rfl⟩
/-- ids of the first rows that are not null -/
def presL (c : CV) : Nat → List Int
  | 0 => []
  | k + 1 => if c.nl.getD k false then presL c k else presL c k ++ [c.il.getD k 0]
theorem presL_len (c : CV) : ∀ k, (presL c k).length ≤ k
  | 0 => Nat.le_refl _
  | k + 1 => by
    have := presL_len c k
    unfold presL
    split <;> simp <;> omega
/-- of the first rows those that are not null and have an id -/
def whL (c : CV) (id : Int) : Nat → List Int
  | 0 => []
  | k + 1 => if !c.nl.getD k false && c.il.getD k 0 == id then whL c id k ++ [(k : Int)] else whL c id k
theorem whL_len (c : CV) (id : Int) : ∀ k, (whL c id k).length ≤ k
  | 0 => Nat.le_refl _
  | k + 1 => by
    have := whL_len c id k
    unfold whL
    split <;> simp <;> omega
def present (c : CV) : List Int := if goodC c then presL c c.il.length else []
def whereC (c : CV) (id : Int) : List Int := if goodC c then whL c id c.il.length else []
/-- a list of ints comes out -/
def OutI (w : World) (L : List Int) (e : Ending) (w' : World) : Prop := ∃ v, e = .returned v ∧ RowI w.heap.size v L w' ∧ Below w.heap.size w w'

set_option maxHeartbeats 1600000 in
theorem cwhere_any {w : World} {a1 a2 : Option Addr} {n1 n2 k1 k2 : Nat} {c : CV} (h1 : Holds w (.slice a1 n1 k1) (bls c.nl)) (h2 : Holds w (.slice a2 n2 k2) (i64s c.il)) (id : Int) :
    Calls Try.prog 12 #[.agg #[.slice a1 n1 k1, .slice a2 n2 k2], .int .i64 id] w (OutI w (whereC c id)) := by
  have hb0 := below_box w (.cells #[.slice a1 n1 k1, .slice a2 n2 k2] 25)
  have HB := Lib.hid hb0
  have KG := cgood_any (h1.below hb0) (h2.below hb0)
  cases hg : goodC c
  · rw [hg] at KG
    have HP : Hid (∀ w', Below w.heap.size w w' → OutI w (whereC c id) (.returned (.slice none 0 0)) w') := Lib.hid fun w' hb => ⟨_, rfl, by simp only [whereC, hg, Bool.false_eq_true, if_false]; exact RowI.nil _ _, hb⟩
    clear h1 h2 hb0 hg
    go_enter Try.func12, Try.ntmps12
    go_wp2_with fail
    refine KG.mono ?_
    rintro e w1 ⟨rfl, hb⟩
    go_wp2_with fail
    go_ret
    exact HP.out _ (HB.out.trans (hb.mono (by simp)))
  rw [hg] at KG
  obtain ⟨hn, hl, _⟩ := good_iff.1 hg
  have e1 := h1.len.1
  have e2 := h2.len.1
  rw [bls_len] at e1
  rw [i64s_len] at e2
  obtain rfl : n2 = n1 := by omega
  have hl : n2 ≤ 1000 := by omega
  have H1 := Lib.hid (h1.below hb0)
  have H2 := Lib.hid (h2.below hb0)
  have E1 := Lib.hid e1
  have E2 := Lib.hid e2
  have HL := Lib.hid hl
  have HP : Hid (whereC c id = whL c id n2) := Lib.hid (by simp only [whereC, hg, if_true, e2])
  clear h1 h2 hb0 hg hn e1 e2 hl
  go_enter Try.func12, Try.ntmps12
  go_wp2_with fail
  refine KG.mono ?_
  rintro e w1 ⟨rfl, hb⟩
  have hb1 : Below (w.heap.size + 1) (w.alloc (.cells #[.slice a1 n2 k1, .slice a2 n2 k2] 25)) w1 := hb.mono (by simp)
  obtain ⟨f0, f1⟩ := box2 hb1
  have HB1 := Lib.hid hb1
  clear KG hb hb1
  go_wp2_with fail
  go_loopw [5, 14] (fun v s wr => ∃ (m : Nat) (sv : Value), sv = v ∧ s = .int .i64 m ∧ m ≤ n2 ∧ Hid (RowI (w.heap.size + 1) sv (whL c id m) wr ∧ Below (w.heap.size + 1) (w.alloc (.cells #[.slice a1 n2 k1, .slice a2 n2 k2] 25)) wr)) (fun _ s _ => n2 - (RowKit.intOf s).toNat)
  case atStart => exact ⟨0, _, rfl, rfl, Nat.zero_le _, RowI.nil _ _, HB1.out⟩
  case round =>
    obtain ⟨m, sv, rfl, rfl, hm, HS⟩ := hrel
    by_cases hlt : m < n2
    · have hk1 : m < c.nl.length := by have := E1.out; omega
      have hk2 : m < c.il.length := by have := E2.out; omega
      obtain ⟨hr, hb⟩ := HS.out
      have hb' : Below (w.alloc (.cells #[.slice a1 n2 k1, .slice a2 n2 k2] 25)).heap.size (w.alloc (.cells #[.slice a1 n2 k1, .slice a2 n2 k2] 25)) wr := by simpa using hb
      have G1 := H1.out.below hb'
      have G2 := H2.out.below hb'
      obtain ⟨d1, rfl⟩ := G1.ptr (by omega)
      obtain ⟨d2, rfl⟩ := G2.ptr (by omega)
      have c1 := G1.cell (bls_get hk1)
      have c2 := G2.cell (i64s_get hk2)
      obtain ⟨f0, f1⟩ := box2 hb
      have b0 : (0 : Int) ≤ (m : Int) := Int.natCast_nonneg m
      have b1 : (m : Int) < (n2 : Int) := Int.ofNat_lt.2 hlt
      have hw64 := col_next hlt (by have := HL.out; omega)
      have hs : whL c id (m + 1) = if !c.nl.getD m false && c.il.getD m 0 == id then whL c id m ++ [(m : Int)] else whL c id m := rfl
      obtain ⟨b, hbe⟩ : ∃ b, c.nl.getD m false = b := ⟨_, rfl⟩
      obtain ⟨x, hx⟩ : ∃ x, c.il.getD m 0 = x := ⟨_, rfl⟩
      rw [hbe, hx] at hs
      rw [hbe] at c1
      rw [hx] at c2
      obtain ⟨sa, sc, rfl, hsc, _⟩ := ownsRow_form hr
      have hll := whL_len c id m
      obtain ⟨v', w2, r, o⟩ := pushI hr (by have := hb.size; simpa using this) (by have := HL.out; omega) (m : Int)
      have HH := Lib.hid (And.intro hr hb)
      clear hk1 hk2 hbe hx HS hr hb hb' G1 G2 HB1
      cases b
      · by_cases hxi : x = id
        · have u0 : (x == id) = true := by rw [beq_iff_eq]; exact hxi
          have hh : Hid (RowI (w.heap.size + 1) v' (whL c id (m + 1)) w2 ∧ Below (w.heap.size + 1) (w.alloc (.cells #[.slice (some d1) n2 k1, .slice (some d2) n2 k2] 25)) w2) := Lib.hid ⟨by rw [hs, u0]; exact o.out.1, HH.out.2.trans o.out.2⟩
          clear hs HH o hxi
          go_wp2_with (at_builtin; refine wpList_append_run rfl _ _ 23 rfl rfl rfl (r.out _) ?_)
          go_roundw
          case rel => exact ⟨m + 1, _, rfl, by go_num, hlt, hh⟩
          case measure => simp [RowKit.intOf]; omega
        · have u0 : (x == id) = false := by rw [beq_eq_false_iff_ne]; exact hxi
          have hh : Hid (RowI (w.heap.size + 1) (.slice sa (whL c id m).length sc) (whL c id (m + 1)) wr ∧ Below (w.heap.size + 1) (w.alloc (.cells #[.slice (some d1) n2 k1, .slice (some d2) n2 k2] 25)) wr) := Lib.hid (by rw [hs, u0]; exact HH.out)
          clear hs HH o hxi
          go_wp2_with fail
          go_roundw
          case rel => exact ⟨m + 1, _, rfl, by go_num, hlt, hh⟩
          case measure => simp [RowKit.intOf]; omega
      · have hh : Hid (RowI (w.heap.size + 1) (.slice sa (whL c id m).length sc) (whL c id (m + 1)) wr ∧ Below (w.heap.size + 1) (w.alloc (.cells #[.slice (some d1) n2 k1, .slice (some d2) n2 k2] 25)) wr) := Lib.hid (by rw [hs]; exact HH.out)
        clear hs HH o
        go_wp2_with fail
        go_roundw
        case rel => exact ⟨m + 1, _, rfl, by go_num, hlt, hh⟩
        case measure => simp [RowKit.intOf]; omega
    · obtain rfl : m = n2 := by omega
      have HQ : Hid (RowI w.heap.size sv (whereC c id) wr ∧ Below w.heap.size w wr) := Lib.hid ⟨by rw [HP.out]; exact HS.out.1.base (by omega), HB.out.trans (HS.out.2.mono (by omega))⟩
      clear HS
      go_wp2_with fail
      go_ret
      exact ⟨_, rfl, HQ.out⟩
end Go.Proofs.Ytbijpjoljljlpaa
