/- A vector that grows in memory; slices.ContainsFunc with Pick's test. Conditions: none. -/
import Derived.Test.YtbijpjoljljlpaaColC
import Derived.Test.YtbijpjoljljlpaaThings
set_option maxRecDepth 100000
namespace Go.Proofs.Ytbijpjoljljlpaa
open Go.RowKit Go.Maps Go.Sort

/-- a vector in a block of one's own, its rows above it -/
def VAt (t : TypeId) (G : Nat) (c : CV) (w : World) : Prop := ∃ nv iv, w.heap[G]? = some (.cells #[nv, iv] t (0, 0)) ∧ RowB (G + 1) nv c.nl w ∧ RowI (G + 1) iv c.il w
theorem VAt.new (t : TypeId) (w : World) : VAt t w.heap.size ⟨[], []⟩ (w.alloc (.cells #[.slice none 0 0, .slice none 0 0] t)) := ⟨_, _, heap_alloc_new w _, RowB.nil _ _, RowI.nil _ _⟩
theorem row_type {w : World} {B B' : Nat} {e e' : TypeId} {v v' : Value} {n n' : Nat} {xs xs' : List Value} (h : w.ownsRow B e 1 v n xs) (h' : w.ownsRow B' e' 1 v' n' xs') (he : e ≠ e') : ∀ g, v.ownBlock = some g → v'.ownBlock ≠ some g := fun g hg hg' => by
  rcases h.2 with ⟨rfl, _⟩ | ⟨g1, c1, cur1, rfl, _, q1, _⟩
  · simp [Value.ownBlock] at hg
  rcases h'.2 with ⟨rfl, _⟩ | ⟨g2, c2, cur2, rfl, _, q2, _⟩
  · simp [Value.ownBlock] at hg'
  have e1 : g1 = g := by simpa [Value.ownBlock] using hg
  have e2 : g2 = g := by simpa [Value.ownBlock] using hg'
  subst e1
  subst e2
  rw [q1] at q2
  injection q2 with q2
  injection q2 with _ q3
  exact he q3
theorem bool_int : (4 : TypeId) ≠ 3 := by decide
theorem vset_below {w : World} {B G j : Nat} (hB : B ≤ G) (v : Value) : Below B w (w.setCell ⟨G, j, none⟩ v) :=
  ⟨rfl, rfl, rfl, by simp [World.setCell], fun k hk => Below.heap_setCell _ ⟨G, j, none⟩ _ k (by show k ≠ G; omega)⟩
theorem vset_other {w : World} {G j k : Nat} (hk : k ≠ G) (v : Value) : (w.setCell ⟨G, j, none⟩ v).heap[k]? = w.heap[k]? := Below.heap_setCell _ ⟨G, j, none⟩ _ k hk
/-- bools behind the vector's bools -/
theorem VAt.appN2 {t : TypeId} {G : Nat} {c : CV} {W W' : World} {nv iv : Value} (h0 : W.heap[G]? = some (.cells #[nv, iv] t (0, 0))) (h1 : RowB (G + 1) nv c.nl W) (h2 : RowI (G + 1) iv c.il W) (hb : Below W.heap.size W W')
    {sv : Value} {l : List Bool} (hs : Holds W' sv (bls l)) (hl : c.nl.length + l.length ≤ 17592186044416) :
    ∃ v' w2, Hid (∀ ty, (Builtin.append_ #[22, 22] ty #[nv, sv]).run Try.prog W' = .ok v' w2) ∧ w2.heap[G]? = some (.cells #[nv, iv] t (0, 0)) ∧
      Hid ((w2.setCell ⟨G, 0, none⟩ v').heap[G]? = some (.cells #[v', iv] t (0, 0)) ∧ RowB (G + 1) v' (c.nl ++ l) (w2.setCell ⟨G, 0, none⟩ v') ∧ RowI (G + 1) iv c.il (w2.setCell ⟨G, 0, none⟩ v') ∧ Below G W (w2.setCell ⟨G, 0, none⟩ v')) ∧ Below (G + 1) W w2 ∧ (∀ k, W.heap.size ≤ k → k < W'.heap.size → w2.heap[k]? = W'.heap[k]?) := by
  have hG := lt_of_heap h0
  have k1 := h1.below hb
  have k2 := h2.below hb
  have k0 : W'.heap[G]? = some (.cells #[nv, iv] t (0, 0)) := (hb.block _ hG).trans h0
  have hGs : G + 1 ≤ W'.heap.size := by have := hb.size; omega
  obtain ⟨v', w2, r, o, g⟩ := appB k1 hGs hs hl
  have hne : nv.ownBlock ≠ some G := fun e => by have := (k1.lt G e).1; omega
  have g0 : w2.heap[G]? = some (.cells #[nv, iv] t (0, 0)) := (g.block G (by omega) hne.symm).trans k0
  have g2 : RowI (G + 1) iv c.il w2 := ownsRow_of_block k2 (fun x hx => g.block x (k2.lt x hx).2 (fun e => row_type k1 k2 bool_int x e.symm hx))
  have b2 : Below (G + 1) W w2 := (hb.mono (by omega)).trans (⟨g.os, g.tape, g.output, g.size, fun k hk => g.block k (by omega) (fun e => by have := (k1.lt k e.symm).1; omega)⟩)
  refine ⟨v', w2, Lib.hid r, g0, Lib.hid ⟨heap_set g0 _, ?_, ?_, (b2.mono (Nat.le_succ _)).trans (vset_below (Nat.le_refl _) _)⟩, b2, fun k hk hk2 => g.block k hk2 (fun e => by have := (h1.lt k e.symm).2; omega)⟩
  · exact ownsRow_of_block o (fun x hx => vset_other (by have := (o.lt x hx).1; omega) _)
  · exact ownsRow_of_block g2 (fun x hx => vset_other (by have := (g2.lt x hx).1; omega) _)
theorem VAt.appN {t : TypeId} {G : Nat} {c : CV} {W W' : World} {nv iv : Value} (h0 : W.heap[G]? = some (.cells #[nv, iv] t (0, 0))) (h1 : RowB (G + 1) nv c.nl W) (h2 : RowI (G + 1) iv c.il W) (hb : Below W.heap.size W W')
    {sv : Value} {l : List Bool} (hs : Holds W' sv (bls l)) (hl : c.nl.length + l.length ≤ 17592186044416) :
    ∃ v' w2, Hid (∀ ty, (Builtin.append_ #[22, 22] ty #[nv, sv]).run Try.prog W' = .ok v' w2) ∧ w2.heap[G]? = some (.cells #[nv, iv] t (0, 0)) ∧
      Hid ((w2.setCell ⟨G, 0, none⟩ v').heap[G]? = some (.cells #[v', iv] t (0, 0)) ∧ RowB (G + 1) v' (c.nl ++ l) (w2.setCell ⟨G, 0, none⟩ v') ∧ RowI (G + 1) iv c.il (w2.setCell ⟨G, 0, none⟩ v') ∧ Below G W (w2.setCell ⟨G, 0, none⟩ v')) ∧ Below (G + 1) W w2 := by
  obtain ⟨v', w2, a, b, c', d, _⟩ := VAt.appN2 h0 h1 h2 hb hs hl
  exact ⟨v', w2, a, b, c', d⟩
/-- ints behind the vector's ints -/
theorem VAt.appI2 {t : TypeId} {G : Nat} {c : CV} {W W' : World} {nv iv : Value} (h0 : W.heap[G]? = some (.cells #[nv, iv] t (0, 0))) (h1 : RowB (G + 1) nv c.nl W) (h2 : RowI (G + 1) iv c.il W) (hb : Below W.heap.size W W')
    {sv : Value} {l : List Int} (hs : Holds W' sv (i64s l)) (hl : c.il.length + l.length ≤ 17592186044416) :
    ∃ v' w2, Hid (∀ ty, (Builtin.append_ #[23, 23] ty #[iv, sv]).run Try.prog W' = .ok v' w2) ∧ w2.heap[G]? = some (.cells #[nv, iv] t (0, 0)) ∧
      Hid ((w2.setCell ⟨G, 1, none⟩ v').heap[G]? = some (.cells #[nv, v'] t (0, 0)) ∧ RowB (G + 1) nv c.nl (w2.setCell ⟨G, 1, none⟩ v') ∧ RowI (G + 1) v' (c.il ++ l) (w2.setCell ⟨G, 1, none⟩ v') ∧ Below G W (w2.setCell ⟨G, 1, none⟩ v')) ∧ Below (G + 1) W w2 ∧ (∀ k, W.heap.size ≤ k → k < W'.heap.size → w2.heap[k]? = W'.heap[k]?) := by
  have hG := lt_of_heap h0
  have k1 := h1.below hb
  have k2 := h2.below hb
  have k0 : W'.heap[G]? = some (.cells #[nv, iv] t (0, 0)) := (hb.block _ hG).trans h0
  have hGs : G + 1 ≤ W'.heap.size := by have := hb.size; omega
  obtain ⟨v', w2, r, o, g⟩ := app64' k2 hGs hs hl
  have hne : iv.ownBlock ≠ some G := fun e => by have := (k2.lt G e).1; omega
  have g0 : w2.heap[G]? = some (.cells #[nv, iv] t (0, 0)) := (g.block G (by omega) hne.symm).trans k0
  have g1 : RowB (G + 1) nv c.nl w2 := ownsRow_of_block k1 (fun x hx => g.block x (k1.lt x hx).2 (fun e => row_type k1 k2 bool_int x hx e.symm))
  have b2 : Below (G + 1) W w2 := (hb.mono (by omega)).trans (⟨g.os, g.tape, g.output, g.size, fun k hk => g.block k (by omega) (fun e => by have := (k2.lt k e.symm).1; omega)⟩)
  refine ⟨v', w2, Lib.hid r, g0, Lib.hid ⟨heap_set g0 _, ?_, ?_, (b2.mono (Nat.le_succ _)).trans (vset_below (Nat.le_refl _) _)⟩, b2, fun k hk hk2 => g.block k hk2 (fun e => by have := (h2.lt k e.symm).2; omega)⟩
  · exact ownsRow_of_block g1 (fun x hx => vset_other (by have := (g1.lt x hx).1; omega) _)
  · exact ownsRow_of_block o (fun x hx => vset_other (by have := (o.lt x hx).1; omega) _)
theorem VAt.appI {t : TypeId} {G : Nat} {c : CV} {W W' : World} {nv iv : Value} (h0 : W.heap[G]? = some (.cells #[nv, iv] t (0, 0))) (h1 : RowB (G + 1) nv c.nl W) (h2 : RowI (G + 1) iv c.il W) (hb : Below W.heap.size W W')
    {sv : Value} {l : List Int} (hs : Holds W' sv (i64s l)) (hl : c.il.length + l.length ≤ 17592186044416) :
    ∃ v' w2, Hid (∀ ty, (Builtin.append_ #[23, 23] ty #[iv, sv]).run Try.prog W' = .ok v' w2) ∧ w2.heap[G]? = some (.cells #[nv, iv] t (0, 0)) ∧
      Hid ((w2.setCell ⟨G, 1, none⟩ v').heap[G]? = some (.cells #[nv, v'] t (0, 0)) ∧ RowB (G + 1) nv c.nl (w2.setCell ⟨G, 1, none⟩ v') ∧ RowI (G + 1) v' (c.il ++ l) (w2.setCell ⟨G, 1, none⟩ v') ∧ Below G W (w2.setCell ⟨G, 1, none⟩ v')) ∧ Below (G + 1) W w2 := by
  obtain ⟨v', w2, a, b, c', d, _⟩ := VAt.appI2 h0 h1 h2 hb hs hl
  exact ⟨v', w2, a, b, c', d⟩
/-- is a row outside? -/
def outR (n : Nat) (x : Int) : Bool := decide (x < 0) || decide ((n : Int) ≤ x)
def outL (n : Nat) (rows : List Int) : Bool := rows.any (outR n)
theorem outside_any {W : World} {B : Nat} {a : Option Addr} {n k : Nat} (hc : W.cell? ⟨B, 1, none⟩ = some (.slice a n k)) (x : Int) :
    Calls Try.prog 21 #[.int .i64 x, .pointer (some ⟨B, 0, none⟩)] W fun e w' => e = .returned (.bool (outR n x)) ∧ w' = W := by
  unfold outR
  by_cases h0 : x < 0
  · have t0 : decide (x < 0) = true := decide_eq_true h0
    rw [t0]
    clear h0
    go_enter Try.func21, Try.ntmps21
    go_wp2_with fail
    go_ret
    exact ⟨rfl, rfl⟩
  · have t0 : decide (x < 0) = false := decide_eq_false h0
    rw [t0]
    clear h0
    cases t1 : decide ((n : Int) ≤ x)
    all_goals (
      go_enter Try.func21, Try.ntmps21
      go_wp2_with fail
      go_ret
      exact ⟨rfl, rfl⟩)
set_option maxHeartbeats 800000 in
theorem indexOut_any {W : World} {B : Nat} {a r : Option Addr} {n k m c : Nat} {rows : List Int} (hc : W.cell? ⟨B, 1, none⟩ = some (.slice a n k)) (hr : Holds W (.slice r m c) (i64s rows)) (hm : m ≤ 1000) :
    Calls Try.prog 30 #[.slice r m c, .func (.func 21) #[] #[.pointer (some ⟨B, 0, none⟩)]] W fun e w' => ∃ i, e = .returned (.int .i64 i) ∧ decide (0 ≤ i) = outL n rows ∧ w' = W := by
  have KO := fun x => outside_any hc x
  have e1 := hr.len.1
  rw [i64s_len] at e1
  have HR := Lib.hid hr
  have E1 := Lib.hid e1
  have HM := Lib.hid hm
  clear hr e1 hm hc
  go_enter Try.func30, Try.ntmps30
  go_wp2_with fail
  go_loopw [8] (fun s wr => ∃ q : Nat, s = .int .i64 q ∧ q ≤ m ∧ wr = W ∧ Hid (∀ j, j < q → outR n (rows.getD j 0) = false)) (fun s _ => m - (RowKit.intOf s).toNat)
  case atStart => exact ⟨0, rfl, Nat.zero_le _, rfl, Lib.hid (fun j hj => by omega)⟩
  case round =>
    obtain ⟨q, rfl, hq, rfl, HS⟩ := hrel
    by_cases hlt : q < m
    · have hk : q < rows.length := by have := E1.out; omega
      obtain ⟨d, rfl⟩ := HR.out.ptr (by omega)
      have c1 := HR.out.cell (i64s_get hk)
      have b0 : (0 : Int) ≤ (q : Int) := Int.natCast_nonneg q
      have b1 : (q : Int) < (m : Int) := Int.ofNat_lt.2 hlt
      have hw64 := col_next hlt HM.out
      obtain ⟨x, hx⟩ : ∃ x, rows.getD q 0 = x := ⟨_, rfl⟩
      rw [hx] at c1
      have K1 := KO x
      cases hb : outR n x
      · rw [hb] at K1
        have hh : Hid (∀ j, j < q + 1 → outR n (rows.getD j 0) = false) := Lib.hid fun j hj => by
          rcases Nat.lt_or_ge j q with g | g
          · exact HS.out j g
          · have : j = q := by omega
            subst this
            rw [hx]; exact hb
        clear hx hk HS hb KO
        go_wp2_with fail
        refine K1.mono ?_
        rintro e w' ⟨rfl, rfl⟩
        go_wp2_with fail
        go_roundw
        case rel => exact ⟨q + 1, by go_num, hlt, trivial, hh⟩
        case measure => simp [RowKit.intOf]; omega
      · rw [hb] at K1
        have hh : Hid (outL n rows = true) := Lib.hid (List.any_eq_true.2 ⟨x, by rw [← hx, List.getD_eq_getElem?_getD, List.getElem?_eq_getElem hk]; exact List.getElem_mem _, hb⟩)
        clear hx hk HS hb KO
        go_wp2_with fail
        refine K1.mono ?_
        rintro e w' ⟨rfl, rfl⟩
        go_wp2_with fail
        go_ret
        exact ⟨_, rfl, by rw [hh.out]; exact decide_eq_true b0, rfl⟩
    · obtain rfl : q = m := by omega
      have hh : Hid (outL n rows = false) := Lib.hid (by
        rw [Bool.eq_false_iff]
        intro h
        obtain ⟨x, hx, hb⟩ := List.any_eq_true.1 h
        obtain ⟨j, hj, rfl⟩ := List.getElem_of_mem hx
        have := HS.out j (by have := E1.out; omega)
        rw [List.getD_eq_getElem?_getD, List.getElem?_eq_getElem hj] at this
        simp only [Option.getD_some] at this
        rw [this] at hb; cases hb)
      clear HS
      go_wp2_with fail
      go_ret
      exact ⟨_, rfl, by rw [hh.out]; rfl, rfl⟩
theorem containsOut_any {W : World} {B : Nat} {a r : Option Addr} {n k m c : Nat} {rows : List Int} (hc : W.cell? ⟨B, 1, none⟩ = some (.slice a n k)) (hr : Holds W (.slice r m c) (i64s rows)) (hm : m ≤ 1000) :
    Calls Try.prog 22 #[.slice r m c, .func (.func 21) #[] #[.pointer (some ⟨B, 0, none⟩)]] W fun e w' => e = .returned (.bool (outL n rows)) ∧ w' = W := by
  have KI := indexOut_any hc hr hm
  obtain ⟨b, hb⟩ : ∃ b, outL n rows = b := ⟨_, rfl⟩
  rw [hb] at KI ⊢
  clear hc hr hm hb
  go_enter Try.func22, Try.ntmps22
  go_wp2_with fail
  refine KI.mono ?_
  rintro e w' ⟨i, rfl, hi, rfl⟩
  cases b
  all_goals (
    go_wp2_with fail
    go_ret
    exact ⟨by rw [← hi]; rfl, rfl⟩)
end Go.Proofs.Ytbijpjoljljlpaa
