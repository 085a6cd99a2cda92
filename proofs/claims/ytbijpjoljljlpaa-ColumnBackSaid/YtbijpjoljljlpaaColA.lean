/- Vectors: what one is in memory, and whether it is good (the program's Good). Conditions: none. -/
import Derived.Test.YtbijpjoljljlpaaTells
set_option maxRecDepth 100000
namespace Go.Proofs.Ytbijpjoljljlpaa
open Go.RowKit Go.Maps Go.Sort

def bls (l : List Bool) : List Value := l.map Value.bool
theorem bls_len (l : List Bool) : (bls l).length = l.length := by simp [bls]
theorem bls_append (a b : List Bool) : bls (a ++ b) = bls a ++ bls b := by simp [bls]
theorem bls_one (l : List Bool) : ∀ u ∈ bls l, u.oneCell' = true := fun u hu => by
  obtain ⟨c, _, rfl⟩ := List.mem_map.1 hu
  rfl
/-- a vector -/
structure CV where
  nl : List Bool
  il : List Int
/-- a row that may be -/
def rowOk (b : Bool) (x : Int) : Bool := decide (0 ≤ x) && decide (x < 512) && !(b && x != 0)
/-- a vector that may be -/
def goodC (c : CV) : Bool := decide (c.nl.length = c.il.length) && decide (c.il.length ≤ 1000) && (List.range c.il.length).all fun k => rowOk (c.nl.getD k false) (c.il.getD k 0)
theorem good_iff {c : CV} : goodC c = true ↔ c.nl.length = c.il.length ∧ c.il.length ≤ 1000 ∧ ∀ k, k < c.il.length → rowOk (c.nl.getD k false) (c.il.getD k 0) = true := by
  simp [goodC, and_assoc]
theorem good_len {c : CV} (h : ¬ c.nl.length = c.il.length) : goodC c = false := by simp [goodC, h]
theorem good_long {c : CV} (h : ¬ c.il.length ≤ 1000) : goodC c = false := by simp [goodC, h]
theorem good_row {c : CV} {k : Nat} (hk : k < c.il.length) (h : rowOk (c.nl.getD k false) (c.il.getD k 0) = false) : goodC c = false := by
  rw [Bool.eq_false_iff]
  intro g
  have := (good_iff.1 g).2.2 k hk
  rw [h] at this; cases this
theorem rowOk_neg {b : Bool} {x : Int} (h : x < 0) : rowOk b x = false := by
  have : decide (0 ≤ x) = false := decide_eq_false (by omega)
  simp [rowOk, this]
theorem rowOk_big {b : Bool} {x : Int} (h : 512 ≤ x) : rowOk b x = false := by
  have : decide (x < 512) = false := decide_eq_false (by omega)
  simp [rowOk, this]
theorem rowOk_in {x : Int} (h0 : ¬ x < 0) (h1 : ¬ 512 ≤ x) : rowOk false x = true := by
  have a : decide (0 ≤ x) = true := decide_eq_true (by omega)
  have b : decide (x < 512) = true := decide_eq_true (by omega)
  simp [rowOk, a, b]
theorem bls_get {l : List Bool} {k : Nat} (h : k < l.length) : (bls l)[k]? = some (.bool (l.getD k false)) := by
  simp [bls, List.getElem?_eq_getElem h, List.getD_eq_getElem?_getD]
theorem i64s_get {l : List Int} {k : Nat} (h : k < l.length) : (i64s l)[k]? = some (.int .i64 (l.getD k 0)) := by
  simp [i64s, List.getElem?_eq_getElem h, List.getD_eq_getElem?_getD]
theorem col_next {k n : Nat} (h : k < n) (hn : n ≤ 1000) : IntKind.i64.wrap ((k : Int) + 1) = (k : Int) + 1 := by rw [IntKind.wrap_i64]; omega
theorem below_box (w : World) (o : Obj) : Below w.heap.size w (w.alloc o) := (Below.refl _ _).alloc (Nat.le_refl _) o

set_option maxHeartbeats 800000 in
theorem cgood_any {w : World} {a1 a2 : Option Addr} {n1 n2 k1 k2 : Nat} {c : CV} (h1 : Holds w (.slice a1 n1 k1) (bls c.nl)) (h2 : Holds w (.slice a2 n2 k2) (i64s c.il)) :
    Calls Try.prog 4 #[.agg #[.slice a1 n1 k1, .slice a2 n2 k2]] w fun e w' => e = .returned (.bool (goodC c)) ∧ Below w.heap.size w w' := by
  have e1 := h1.len.1
  have e2 := h2.len.1
  rw [bls_len] at e1
  rw [i64s_len] at e2
  have HB := Lib.hid (below_box w (.cells #[.slice a1 n1 k1, .slice a2 n2 k2] 25))
  by_cases hne : n1 = n2
  case neg =>
    have hg : goodC c = false := good_len (by omega)
    have t0 : (n1 != n2) = true := by rw [bne_iff_ne]; exact hne
    have t1 : ((n1 : Int) != (n2 : Int)) = true := by rw [bne_iff_ne]; omega
    rw [hg]
    clear h1 h2 e1 e2 hne hg
    go_enter Try.func4, Try.ntmps4
    go_wp2_with fail
    go_ret
    exact ⟨rfl, HB.out⟩
  subst hne
  have t0 : (n1 != n1) = false := by simp
  have t1 : ((n1 : Int) != (n1 : Int)) = false := by simp
  by_cases hl : 1000 < n1
  · have hg : goodC c = false := good_long (by omega)
    have t2 : decide ((1000 : Int) < (n1 : Int)) = true := decide_eq_true (by omega)
    rw [hg]
    clear h1 h2 e1 e2 hg hl
    go_enter Try.func4, Try.ntmps4
    go_wp2_with fail
    go_ret
    exact ⟨rfl, HB.out⟩
  have t2 : decide ((1000 : Int) < (n1 : Int)) = false := decide_eq_false (by omega)
  have H1 := Lib.hid (h1.below HB.out)
  have H2 := Lib.hid (h2.below HB.out)
  have E1 := Lib.hid e1
  have E2 := Lib.hid e2
  have HL := Lib.hid hl
  clear h1 h2 e1 e2 hl
  go_enter Try.func4, Try.ntmps4
  go_wp2_with fail
  go_loopw [21] (fun s wr => ∃ m : Nat, s = .int .i64 m ∧ m ≤ n1 ∧ wr = w.alloc (.cells #[.slice a1 n1 k1, .slice a2 n1 k2] 25) ∧ Hid (∀ j, j < m → rowOk (c.nl.getD j false) (c.il.getD j 0) = true)) (fun s _ => n1 - (RowKit.intOf s).toNat)
  case atStart => exact ⟨0, rfl, Nat.zero_le _, rfl, Lib.hid (fun j hj => by omega)⟩
  case round =>
    obtain ⟨m, rfl, hm, rfl, HS⟩ := hrel
    by_cases hlt : m < n1
    · have hk1 : m < c.nl.length := by have := E1.out; omega
      have hk2 : m < c.il.length := by have := E2.out; omega
      obtain ⟨d1, rfl⟩ := H1.out.ptr (by omega)
      obtain ⟨d2, rfl⟩ := H2.out.ptr (by omega)
      have c1 := H1.out.cell (bls_get hk1)
      have c2 := H2.out.cell (i64s_get hk2)
      have b0 : (0 : Int) ≤ (m : Int) := Int.natCast_nonneg m
      have b1 : (m : Int) < (n1 : Int) := Int.ofNat_lt.2 hlt
      have hw64 := col_next hlt (by have := HL.out; omega)
      have HR := Lib.hid (@good_row c m hk2)
      obtain ⟨b, hb⟩ : ∃ b, c.nl.getD m false = b := ⟨_, rfl⟩
      obtain ⟨x, hx⟩ : ∃ x, c.il.getD m 0 = x := ⟨_, rfl⟩
      rw [hb, hx] at HR
      rw [hb] at c1
      rw [hx] at c2
      have HN : Hid (rowOk b x = true → ∀ j, j < m + 1 → rowOk (c.nl.getD j false) (c.il.getD j 0) = true) := Lib.hid fun h j hj => by
        rcases Nat.lt_or_ge j m with g | g
        · exact HS.out j g
        · have : j = m := by omega
          subst this
          rw [hb, hx]; exact h
      clear hk1 hk2 hb hx HS
      by_cases hx0 : x < 0
      · have hg := Lib.hid (HR.out (rowOk_neg hx0))
        have u0 : decide (x < 0) = true := decide_eq_true hx0
        clear HR HN hx0
        go_wp2_with fail
        go_ret
        rw [hg.out]; exact ⟨rfl, HB.out⟩
      have u0 : decide (x < 0) = false := decide_eq_false hx0
      by_cases hx1 : 512 ≤ x
      · have hg := Lib.hid (HR.out (rowOk_big hx1))
        have u1 : decide (512 ≤ x) = true := decide_eq_true hx1
        clear HR HN hx0 hx1
        go_wp2_with fail
        go_ret
        rw [hg.out]; exact ⟨rfl, HB.out⟩
      have u1 : decide (512 ≤ x) = false := decide_eq_false hx1
      cases b
      · have hh := Lib.hid (HN.out (rowOk_in hx0 hx1))
        clear HR HN hx0 hx1
        go_wp2_with fail
        go_roundw
        case rel => exact ⟨m + 1, by go_num, hlt, trivial, hh⟩
        case measure => simp [RowKit.intOf]; omega
      · by_cases hx2 : x = 0
        · subst hx2
          have hh := Lib.hid (HN.out rfl)
          clear HR HN hx0 hx1
          go_wp2_with fail
          go_roundw
          case rel => exact ⟨m + 1, by go_num, hlt, trivial, hh⟩
          case measure => simp [RowKit.intOf]; omega
        · have u2 : (x != 0) = true := by rw [bne_iff_ne]; exact hx2
          have hg := Lib.hid (HR.out (by simp [rowOk, hx2]))
          clear HR HN hx0 hx1 hx2
          go_wp2_with fail
          go_ret
          rw [hg.out]; exact ⟨rfl, HB.out⟩
    · have hg := Lib.hid (good_iff.2 ⟨by rw [E1.out, E2.out], by rw [E2.out]; have := HL.out; omega, fun k hk => HS.out k (by rw [E2.out] at hk; omega)⟩)
      clear HS
      go_wp2_with fail
      go_ret
      rw [hg.out]; exact ⟨rfl, HB.out⟩
end Go.Proofs.Ytbijpjoljljlpaa
