/- The texts ColR ColC, one behind the other; each one's own comment says what it holds. -/
import Derived.Test.YtknghmcdnlkfcaaPackAB
import Derived.Test.YtknghmcdnlkfcaaShelf
/- The document's Good and Where. Conditions: none. -/
set_option maxRecDepth 100000
namespace Go.Proofs.Ytknghmcdnlkfcaa
open Go.RowKit Go.Maps Go.Sort

set_option maxHeartbeats 800000 in
theorem rcgood_any {w : World} {a1 a2 : Option Addr} {n1 n2 k1 k2 : Nat} {c : CV} (h1 : Holds w (.slice a1 n1 k1) (bls c.nl)) (h2 : Holds w (.slice a2 n2 k2) (i64s c.il)) :
    Calls Try.prog 15 #[.agg #[.slice a1 n1 k1, .slice a2 n2 k2]] w fun e w' => e = .returned (.bool (goodC c)) ∧ Below w.heap.size w w' := by
  have e1 := h1.len.1
  have e2 := h2.len.1
  rw [bls_len] at e1
  rw [i64s_len] at e2
  have HB := Lib.hid (below_box w (.cells #[.slice a1 n1 k1, .slice a2 n2 k2] 33))
  by_cases hne : n1 = n2
  case neg =>
    have hg : goodC c = false := good_len (by omega)
    have t0 : (n1 != n2) = true := by rw [bne_iff_ne]; exact hne
    have t1 : ((n1 : Int) != (n2 : Int)) = true := by rw [bne_iff_ne]; omega
    rw [hg]
    clear h1 h2 e1 e2 hne hg
    go_enter Try.func15, Try.ntmps15
    go_wp2_with fail
    go_ret
    exact ⟨rfl, HB.out⟩
  subst hne
  have t0 : (n1 != n1) = false := by simp
  have t1 : ((n1 : Int) != (n1 : Int)) = false := by simp
  by_cases hl : 1000 < n1
  · have hg : goodC c = false := good_long (by omega)
    have t2 : decide ((1000 : Int) < (n1 : Int)) = true := decide_eq_true (by omega)
    rw [hg]
    clear h1 h2 e1 e2 hg hl
    go_enter Try.func15, Try.ntmps15
    go_wp2_with fail
    go_ret
    exact ⟨rfl, HB.out⟩
  have t2 : decide ((1000 : Int) < (n1 : Int)) = false := decide_eq_false (by omega)
  have H1 := Lib.hid (h1.below HB.out)
  have H2 := Lib.hid (h2.below HB.out)
  have E1 := Lib.hid e1
  have E2 := Lib.hid e2
  have HL := Lib.hid hl
  clear h1 h2 e1 e2 hl
  go_enter Try.func15, Try.ntmps15
  go_wp2_with fail
  go_loopw [21] (fun s wr => ∃ m : Nat, s = .int .i64 m ∧ m ≤ n1 ∧ wr = w.alloc (.cells #[.slice a1 n1 k1, .slice a2 n1 k2] 33) ∧ Hid (∀ j, j < m → rowOk (c.nl.getD j false) (c.il.getD j 0) = true)) (fun s _ => n1 - (RowKit.intOf s).toNat)
  case atStart => exact ⟨0, rfl, Nat.zero_le _, rfl, Lib.hid (fun j hj => by omega)⟩
  case round =>
    obtain ⟨m, rfl, hm, rfl, HS⟩ := hrel
    by_cases hlt : m < n1
    · have hk1 : m < c.nl.length := by have := E1.out; omega
      have hk2 : m < c.il.length := by have := E2.out; omega
      obtain ⟨d1, rfl⟩ := H1.out.ptr (by omega)
      obtain ⟨d2, rfl⟩ := H2.out.ptr (by omega)
      have c1 := H1.out.cell (bls_get hk1)
      have c2 := H2.out.cell (i64s_get hk2)
      have b0 : (0 : Int) ≤ (m : Int) := Int.natCast_nonneg m
      have b1 : (m : Int) < (n1 : Int) := Int.ofNat_lt.2 hlt
      have hw64 := col_next hlt (by have := HL.out; omega)
      have HR := Lib.hid (@good_row c m hk2)
      obtain ⟨b, hb⟩ : ∃ b, c.nl.getD m false = b := ⟨_, rfl⟩
      obtain ⟨x, hx⟩ : ∃ x, c.il.getD m 0 = x := ⟨_, rfl⟩
      rw [hb, hx] at HR
      rw [hb] at c1
      rw [hx] at c2
      have HN : Hid (rowOk b x = true → ∀ j, j < m + 1 → rowOk (c.nl.getD j false) (c.il.getD j 0) = true) := Lib.hid fun h j hj => by
        rcases Nat.lt_or_ge j m with g | g
        · exact HS.out j g
        · have : j = m := by omega
          subst this
          rw [hb, hx]; exact h
      clear hk1 hk2 hb hx HS
      by_cases hx0 : x < 0
      · have hg := Lib.hid (HR.out (rowOk_neg hx0))
        have u0 : decide (x < 0) = true := decide_eq_true hx0
        clear HR HN hx0
        go_wp2_with fail
        go_ret
        rw [hg.out]; exact ⟨rfl, HB.out⟩
      have u0 : decide (x < 0) = false := decide_eq_false hx0
      by_cases hx1 : 512 ≤ x
      · have hg := Lib.hid (HR.out (rowOk_big hx1))
        have u1 : decide (512 ≤ x) = true := decide_eq_true hx1
        clear HR HN hx0 hx1
        go_wp2_with fail
        go_ret
        rw [hg.out]; exact ⟨rfl, HB.out⟩
      have u1 : decide (512 ≤ x) = false := decide_eq_false hx1
      cases b
      · have hh := Lib.hid (HN.out (rowOk_in hx0 hx1))
        clear HR HN hx0 hx1
        go_wp2_with fail
        go_roundw
        case rel => exact ⟨m + 1, by go_num, hlt, trivial, hh⟩
        case measure => simp [RowKit.intOf]; omega
      · by_cases hx2 : x = 0
        · subst hx2
          have hh := Lib.hid (HN.out rfl)
          clear HR HN hx0 hx1
          go_wp2_with fail
          go_roundw
          case rel => exact ⟨m + 1, by go_num, hlt, trivial, hh⟩
          case measure => simp [RowKit.intOf]; omega
        · have u2 : (x != 0) = true := by rw [bne_iff_ne]; exact hx2
          have hg := Lib.hid (HR.out (by simp [rowOk, hx2]))
          clear HR HN hx0 hx1 hx2
          go_wp2_with fail
          go_ret
          rw [hg.out]; exact ⟨rfl, HB.out⟩
    · have hg := Lib.hid (good_iff.2 ⟨by rw [E1.out, E2.out], by rw [E2.out]; have := HL.out; omega, fun k hk => HS.out k (by rw [E2.out] at hk; omega)⟩)
      clear HS
      go_wp2_with fail
      go_ret
      rw [hg.out]; exact ⟨rfl, HB.out⟩

set_option maxHeartbeats 1600000 in
theorem rcwhere_any {w : World} {a1 a2 : Option Addr} {n1 n2 k1 k2 : Nat} {c : CV} (h1 : Holds w (.slice a1 n1 k1) (bls c.nl)) (h2 : Holds w (.slice a2 n2 k2) (i64s c.il)) (id : Int) :
    Calls Try.prog 24 #[.agg #[.slice a1 n1 k1, .slice a2 n2 k2], .int .i64 id] w (OutI w (whereC c id)) := by
  have hb0 := below_box w (.cells #[.slice a1 n1 k1, .slice a2 n2 k2] 33)
  have HB := Lib.hid hb0
  have KG := rcgood_any (h1.below hb0) (h2.below hb0)
  cases hg : goodC c
  · rw [hg] at KG
    have HP : Hid (∀ w', Below w.heap.size w w' → OutI w (whereC c id) (.returned (.slice none 0 0)) w') := Lib.hid fun w' hb => ⟨_, rfl, by simp only [whereC, hg, Bool.false_eq_true, if_false]; exact RowI.nil _ _, hb⟩
    clear h1 h2 hb0 hg
    go_enter Try.func24, Try.ntmps24
    go_wp2_with fail
    refine KG.mono ?_
    rintro e w1 ⟨rfl, hb⟩
    go_wp2_with fail
    go_ret
    exact HP.out _ (HB.out.trans (hb.mono (by simp)))
  rw [hg] at KG
  obtain ⟨hn, hl, _⟩ := good_iff.1 hg
  have e1 := h1.len.1
  have e2 := h2.len.1
  rw [bls_len] at e1
  rw [i64s_len] at e2
  obtain rfl : n2 = n1 := by omega
  have hl : n2 ≤ 1000 := by omega
  have H1 := Lib.hid (h1.below hb0)
  have H2 := Lib.hid (h2.below hb0)
  have E1 := Lib.hid e1
  have E2 := Lib.hid e2
  have HL := Lib.hid hl
  have HP : Hid (whereC c id = whL c id n2) := Lib.hid (by simp only [whereC, hg, if_true, e2])
  clear h1 h2 hb0 hg hn e1 e2 hl
  go_enter Try.func24, Try.ntmps24
  go_wp2_with fail
  refine KG.mono ?_
  rintro e w1 ⟨rfl, hb⟩
  have hb1 : Below (w.heap.size + 1) (w.alloc (.cells #[.slice a1 n2 k1, .slice a2 n2 k2] 33)) w1 := hb.mono (by simp)
  obtain ⟨f0, f1⟩ := box2 hb1
  have HB1 := Lib.hid hb1
  clear KG hb hb1
  go_wp2_with fail
  go_loopw [5, 14] (fun v s wr => ∃ (m : Nat) (sv : Value), sv = v ∧ s = .int .i64 m ∧ m ≤ n2 ∧ Hid (RowI (w.heap.size + 1) sv (whL c id m) wr ∧ Below (w.heap.size + 1) (w.alloc (.cells #[.slice a1 n2 k1, .slice a2 n2 k2] 33)) wr)) (fun _ s _ => n2 - (RowKit.intOf s).toNat)
  case atStart => exact ⟨0, _, rfl, rfl, Nat.zero_le _, RowI.nil _ _, HB1.out⟩
  case round =>
    obtain ⟨m, sv, rfl, rfl, hm, HS⟩ := hrel
    by_cases hlt : m < n2
    · have hk1 : m < c.nl.length := by have := E1.out; omega
      have hk2 : m < c.il.length := by have := E2.out; omega
      obtain ⟨hr, hb⟩ := HS.out
      have hb' : Below (w.alloc (.cells #[.slice a1 n2 k1, .slice a2 n2 k2] 33)).heap.size (w.alloc (.cells #[.slice a1 n2 k1, .slice a2 n2 k2] 33)) wr := by simpa using hb
      have G1 := H1.out.below hb'
      have G2 := H2.out.below hb'
      obtain ⟨d1, rfl⟩ := G1.ptr (by omega)
      obtain ⟨d2, rfl⟩ := G2.ptr (by omega)
      have c1 := G1.cell (bls_get hk1)
      have c2 := G2.cell (i64s_get hk2)
      obtain ⟨f0, f1⟩ := box2 hb
      have b0 : (0 : Int) ≤ (m : Int) := Int.natCast_nonneg m
      have b1 : (m : Int) < (n2 : Int) := Int.ofNat_lt.2 hlt
      have hw64 := col_next hlt (by have := HL.out; omega)
      have hs : whL c id (m + 1) = if !c.nl.getD m false && c.il.getD m 0 == id then whL c id m ++ [(m : Int)] else whL c id m := rfl
      obtain ⟨b, hbe⟩ : ∃ b, c.nl.getD m false = b := ⟨_, rfl⟩
      obtain ⟨x, hx⟩ : ∃ x, c.il.getD m 0 = x := ⟨_, rfl⟩
      rw [hbe, hx] at hs
      rw [hbe] at c1
      rw [hx] at c2
      obtain ⟨sa, sc, rfl, hsc, _⟩ := ownsRow_form hr
      have hll := whL_len c id m
      obtain ⟨v', w2, r, o⟩ := pushI hr (by have := hb.size; simpa using this) (by have := HL.out; omega) (m : Int)
      have HH := Lib.hid (And.intro hr hb)
      clear hk1 hk2 hbe hx HS hr hb hb' G1 G2 HB1
      cases b
      · by_cases hxi : x = id
        · have u0 : (x == id) = true := by rw [beq_iff_eq]; exact hxi
          have hh : Hid (RowI (w.heap.size + 1) v' (whL c id (m + 1)) w2 ∧ Below (w.heap.size + 1) (w.alloc (.cells #[.slice (some d1) n2 k1, .slice (some d2) n2 k2] 33)) w2) := Lib.hid ⟨by rw [hs, u0]; exact o.out.1, HH.out.2.trans o.out.2⟩
          clear hs HH o hxi
          go_wp2_with (at_builtin; refine wpList_append_run rfl _ _ 23 rfl rfl rfl (r.out _) ?_)
          go_roundw
          case rel => exact ⟨m + 1, _, rfl, by go_num, hlt, hh⟩
          case measure => simp [RowKit.intOf]; omega
        · have u0 : (x == id) = false := by rw [beq_eq_false_iff_ne]; exact hxi
          have hh : Hid (RowI (w.heap.size + 1) (.slice sa (whL c id m).length sc) (whL c id (m + 1)) wr ∧ Below (w.heap.size + 1) (w.alloc (.cells #[.slice (some d1) n2 k1, .slice (some d2) n2 k2] 33)) wr) := Lib.hid (by rw [hs, u0]; exact HH.out)
          clear hs HH o hxi
          go_wp2_with fail
          go_roundw
          case rel => exact ⟨m + 1, _, rfl, by go_num, hlt, hh⟩
          case measure => simp [RowKit.intOf]; omega
      · have hh : Hid (RowI (w.heap.size + 1) (.slice sa (whL c id m).length sc) (whL c id (m + 1)) wr ∧ Below (w.heap.size + 1) (w.alloc (.cells #[.slice (some d1) n2 k1, .slice (some d2) n2 k2] 33)) wr) := Lib.hid (by rw [hs]; exact HH.out)
        clear hs HH o
        go_wp2_with fail
        go_roundw
        case rel => exact ⟨m + 1, _, rfl, by go_num, hlt, hh⟩
        case measure => simp [RowKit.intOf]; omega
    · obtain rfl : m = n2 := by omega
      have HQ : Hid (RowI w.heap.size sv (whereC c id) wr ∧ Below w.heap.size w wr) := Lib.hid ⟨by rw [HP.out]; exact HS.out.1.base (by omega), HB.out.trans (HS.out.2.mono (by omega))⟩
      clear HS
      go_wp2_with fail
      go_ret
      exact ⟨_, rfl, HQ.out⟩
end Go.Proofs.Ytknghmcdnlkfcaa
/- Range: the least and the greatest id, on both sides. Conditions: none. -/
set_option maxRecDepth 100000
namespace Go.Proofs.Ytknghmcdnlkfcaa
open Go.RowKit Go.Maps Go.Sort

theorem max_snoc {L : List Int} (h : L ≠ []) (x : Int) : Lib.maxOf (L ++ [x]) = max (Lib.maxOf L) x := by
  cases L with
  | nil => exact absurd rfl h
  | cons a r => simp [Lib.maxOf]
theorem min_snoc {L : List Int} (h : L ≠ []) (x : Int) : Lib.minOf (L ++ [x]) = min (Lib.minOf L) x := by
  cases L with
  | nil => exact absurd rfl h
  | cons a r => simp [Lib.minOf]
theorem max_one (x : Int) : Lib.maxOf [x] = x := by simp [Lib.maxOf]
theorem min_one (x : Int) : Lib.minOf [x] = x := by simp [Lib.minOf]
theorem RowI.ptr {B : Nat} {v : Value} {L : List Int} {w : World} (h : RowI B v L w) (hL : 0 < L.length) : ∃ g c, v = .slice (some ⟨g, 0, none⟩) L.length c ∧ ∀ j, j < L.length → w.cell? ⟨g, 0 + j, none⟩ = some (.int .i64 (L.getD j 0)) := by
  have hh := h
  rcases h.2 with ⟨_, e2⟩ | ⟨g, cap, cur, e, hB, hg, h1, h2, _⟩
  · omega
  · refine ⟨g, cap, e, fun j hj => ?_⟩
    have hc := World.ownsRow.cells hh (g := g) (by rw [e]; rfl) j _ (i64s_get hj)
    rw [Addr.add_at] at hc
    exact hc
set_option maxHeartbeats 1600000 in
theorem present_any {w : World} {a1 a2 : Option Addr} {n1 n2 k1 k2 : Nat} {c : CV} (h1 : Holds w (.slice a1 n1 k1) (bls c.nl)) (h2 : Holds w (.slice a2 n2 k2) (i64s c.il)) :
    Calls Try.prog 42 #[.agg #[.slice a1 n1 k1, .slice a2 n2 k2]] w (OutI w (present c)) := by
  have hb0 := below_box w (.cells #[.slice a1 n1 k1, .slice a2 n2 k2] 25)
  have HB := Lib.hid hb0
  have KG := cgood_any (h1.below hb0) (h2.below hb0)
  cases hg : goodC c
  · rw [hg] at KG
    have HP : Hid (∀ w', Below w.heap.size w w' → OutI w (present c) (.returned (.slice none 0 0)) w') := Lib.hid fun w' hb => ⟨_, rfl, by simp only [present, hg, Bool.false_eq_true, if_false]; exact RowI.nil _ _, hb⟩
    clear h1 h2 hb0 hg
    go_enter Try.func42, Try.ntmps42
    go_wp2_with fail
    refine KG.mono ?_
    rintro e w1 ⟨rfl, hb⟩
    go_wp2_with fail
    go_ret
    exact HP.out _ (HB.out.trans (hb.mono (by simp)))
  rw [hg] at KG
  obtain ⟨hn, hl, _⟩ := good_iff.1 hg
  have e1 := h1.len.1
  have e2 := h2.len.1
  rw [bls_len] at e1
  rw [i64s_len] at e2
  obtain rfl : n2 = n1 := by omega
  have hl : n2 ≤ 1000 := by omega
  have H1 := Lib.hid (h1.below hb0)
  have H2 := Lib.hid (h2.below hb0)
  have E1 := Lib.hid e1
  have E2 := Lib.hid e2
  have HL := Lib.hid hl
  have HP : Hid (present c = presL c n2) := Lib.hid (by simp only [present, hg, if_true, e2])
  clear h1 h2 hb0 hg hn e1 e2 hl
  go_enter Try.func42, Try.ntmps42
  go_wp2_with fail
  refine KG.mono ?_
  rintro e w1 ⟨rfl, hb⟩
  have hb1 : Below (w.heap.size + 1) (w.alloc (.cells #[.slice a1 n2 k1, .slice a2 n2 k2] 25)) w1 := hb.mono (by simp)
  obtain ⟨f0, f1⟩ := box2 hb1
  have HB1 := Lib.hid hb1
  clear KG hb hb1
  go_wp2_with fail
  go_loopw [3, 12] (fun v s wr => ∃ (m : Nat) (sv : Value), sv = v ∧ s = .int .i64 m ∧ m ≤ n2 ∧ Hid (RowI (w.heap.size + 1) sv (presL c m) wr ∧ Below (w.heap.size + 1) (w.alloc (.cells #[.slice a1 n2 k1, .slice a2 n2 k2] 25)) wr)) (fun _ s _ => n2 - (RowKit.intOf s).toNat)
  case atStart => exact ⟨0, _, rfl, rfl, Nat.zero_le _, RowI.nil _ _, HB1.out⟩
  case round =>
    obtain ⟨m, sv, rfl, rfl, hm, HS⟩ := hrel
    by_cases hlt : m < n2
    · have hk1 : m < c.nl.length := by have := E1.out; omega
      have hk2 : m < c.il.length := by have := E2.out; omega
      obtain ⟨hr, hb⟩ := HS.out
      have hb' : Below (w.alloc (.cells #[.slice a1 n2 k1, .slice a2 n2 k2] 25)).heap.size (w.alloc (.cells #[.slice a1 n2 k1, .slice a2 n2 k2] 25)) wr := by simpa using hb
      have G1 := H1.out.below hb'
      have G2 := H2.out.below hb'
      obtain ⟨d1, rfl⟩ := G1.ptr (by omega)
      obtain ⟨d2, rfl⟩ := G2.ptr (by omega)
      have c1 := G1.cell (bls_get hk1)
      have c2 := G2.cell (i64s_get hk2)
      obtain ⟨f0, f1⟩ := box2 hb
      have b0 : (0 : Int) ≤ (m : Int) := Int.natCast_nonneg m
      have b1 : (m : Int) < (n2 : Int) := Int.ofNat_lt.2 hlt
      have hw64 := col_next hlt (by have := HL.out; omega)
      have hs : presL c (m + 1) = if c.nl.getD m false then presL c m else presL c m ++ [c.il.getD m 0] := rfl
      obtain ⟨b, hbe⟩ : ∃ b, c.nl.getD m false = b := ⟨_, rfl⟩
      obtain ⟨x, hx⟩ : ∃ x, c.il.getD m 0 = x := ⟨_, rfl⟩
      rw [hbe, hx] at hs
      rw [hbe] at c1
      rw [hx] at c2
      obtain ⟨sa, sc, rfl, hsc, _⟩ := ownsRow_form hr
      have hll := presL_len c m
      obtain ⟨v', w2, r, o⟩ := pushI hr (by have := hb.size; simpa using this) (by have := HL.out; omega) x
      have HH := Lib.hid (And.intro hr hb)
      clear hk1 hk2 hbe hx HS hr hb hb' G1 G2 HB1
      cases b
      · have hh : Hid (RowI (w.heap.size + 1) v' (presL c (m + 1)) w2 ∧ Below (w.heap.size + 1) (w.alloc (.cells #[.slice (some d1) n2 k1, .slice (some d2) n2 k2] 25)) w2) := Lib.hid ⟨by rw [hs]; exact o.out.1, HH.out.2.trans o.out.2⟩
        clear hs HH o
        go_wp2_with (at_builtin; refine wpList_append_run rfl _ _ 23 rfl rfl rfl (r.out _) ?_)
        go_roundw
        case rel => exact ⟨m + 1, _, rfl, by go_num, hlt, hh⟩
        case measure => simp [RowKit.intOf]; omega
      · have hh : Hid (RowI (w.heap.size + 1) (.slice sa (presL c m).length sc) (presL c (m + 1)) wr ∧ Below (w.heap.size + 1) (w.alloc (.cells #[.slice (some d1) n2 k1, .slice (some d2) n2 k2] 25)) wr) := Lib.hid (by rw [hs]; exact HH.out)
        clear hs HH o
        go_wp2_with fail
        go_roundw
        case rel => exact ⟨m + 1, _, rfl, by go_num, hlt, hh⟩
        case measure => simp [RowKit.intOf]; omega
    · obtain rfl : m = n2 := by omega
      have HQ : Hid (RowI w.heap.size sv (present c) wr ∧ Below w.heap.size w wr) := Lib.hid ⟨by rw [HP.out]; exact HS.out.1.base (by omega), HB.out.trans (HS.out.2.mono (by omega))⟩
      clear HS
      go_wp2_with fail
      go_ret
      exact ⟨_, rfl, HQ.out⟩
theorem present_len (c : CV) : (present c).length ≤ 1000 := by
  unfold present
  cases h : goodC c
  · simp
  · simp only [if_true]
    exact Nat.le_trans (presL_len c _) (good_iff.1 h).2.1
/-- what Range tells -/
def rangeR (L : List Int) : Ending := .returned (.tuple #[.int .i64 (Lib.minOf L), .int .i64 (Lib.maxOf L), .bool (decide (0 < L.length))])
set_option maxHeartbeats 800000 in
theorem crange_any {w : World} {a1 a2 : Option Addr} {n1 n2 k1 k2 : Nat} {c : CV} (h1 : Holds w (.slice a1 n1 k1) (bls c.nl)) (h2 : Holds w (.slice a2 n2 k2) (i64s c.il)) :
    Calls Try.prog 20 #[.agg #[.slice a1 n1 k1, .slice a2 n2 k2]] w fun e w' => e = rangeR (present c) ∧ Below w.heap.size w w' := by
  have hb0 := below_box w (.cells #[.slice a1 n1 k1, .slice a2 n2 k2] 25)
  have HB := Lib.hid hb0
  have KP := present_any (h1.below hb0) (h2.below hb0)
  have hL := present_len c
  obtain ⟨L, hLe⟩ : ∃ L, present c = L := ⟨_, rfl⟩
  rw [hLe] at KP hL ⊢
  clear h1 h2 hb0 hLe
  rcases Nat.eq_zero_or_pos L.length with h0 | hpos
  · have e0 := List.eq_nil_of_length_eq_zero h0
    subst e0
    clear hL h0
    go_enter Try.func20, Try.ntmps20
    go_wp2_with fail
    refine KP.mono ?_
    rintro e w1 ⟨v, rfl, hr, hb⟩
    obtain ⟨a, cp, rfl, _⟩ := ownsRow_form hr
    clear KP hr
    have HB2 := Lib.hid (HB.out.trans (hb.mono (by simp)))
    clear hb
    go_wp2_with fail
    go_ret3
    exact ⟨rfl, HB2.out⟩
  · have HL := Lib.hid hL
    have hd : decide (0 < L.length) = true := decide_eq_true hpos
    have t0 : ((L.length : Int) == 0) = false := by rw [beq_eq_false_iff_ne]; omega
    have t1 : (L.length == 0) = false := by rw [beq_eq_false_iff_ne]; omega
    have HT : Hid (L.take L.length = L) := Lib.hid (List.take_length)
    unfold rangeR
    rw [hd]
    go_enter Try.func20, Try.ntmps20
    go_wp2_with fail
    refine KP.mono ?_
    rintro e w1 ⟨v, rfl, hr, hb⟩
    obtain ⟨g, cp, rfl, hc⟩ := hr.ptr hpos
    have KMin := Try.slices_Min_int g 0 L.length cp L w1 hpos (Nat.le_refl _) (by have := HL.out; omega) hc
    have KMax := Try.slices_Max_int g 0 L.length cp L w1 hpos (Nat.le_refl _) (by have := HL.out; omega) hc
    rw [HT.out] at KMin KMax
    have HB2 := Lib.hid (HB.out.trans (hb.mono (by simp)))
    clear hb KP hr hc HT hL hpos hd
    go_wp2_with fail
    refine KMin.mono ?_
    rintro e w2 ⟨rfl, rfl⟩
    go_wp2_with fail
    refine KMax.mono ?_
    rintro e w2 ⟨rfl, rfl⟩
    go_wp2_with fail
    go_ret3
    exact ⟨rfl, HB2.out⟩
set_option maxHeartbeats 1600000 in
theorem rcrange_any {w : World} {a1 a2 : Option Addr} {n1 n2 k1 k2 : Nat} {c : CV} (h1 : Holds w (.slice a1 n1 k1) (bls c.nl)) (h2 : Holds w (.slice a2 n2 k2) (i64s c.il)) :
    Calls Try.prog 21 #[.agg #[.slice a1 n1 k1, .slice a2 n2 k2]] w fun e w' => e = rangeR (present c) ∧ Below w.heap.size w w' := by
  have hb0 := below_box w (.cells #[.slice a1 n1 k1, .slice a2 n2 k2] 33)
  have HB := Lib.hid hb0
  have KG := rcgood_any (h1.below hb0) (h2.below hb0)
  cases hg : goodC c
  · rw [hg] at KG
    have HP : Hid (present c = []) := Lib.hid (by simp only [present, hg, Bool.false_eq_true, if_false])
    rw [HP.out]
    clear h1 h2 hb0 hg
    go_enter Try.func21, Try.ntmps21
    go_wp2_with fail
    refine KG.mono ?_
    rintro e w1 ⟨rfl, hb⟩
    go_wp2_with fail
    go_ret3
    exact ⟨rfl, HB.out.trans (hb.mono (by simp))⟩
  rw [hg] at KG
  obtain ⟨hn, hl, _⟩ := good_iff.1 hg
  have e1 := h1.len.1
  have e2 := h2.len.1
  rw [bls_len] at e1
  rw [i64s_len] at e2
  obtain rfl : n2 = n1 := by omega
  have hl : n2 ≤ 1000 := by omega
  have H1 := Lib.hid (h1.below hb0)
  have H2 := Lib.hid (h2.below hb0)
  have E1 := Lib.hid e1
  have E2 := Lib.hid e2
  have HL := Lib.hid hl
  have HP : Hid (present c = presL c n2) := Lib.hid (by simp only [present, hg, if_true, e2])
  clear h1 h2 hb0 hg hn e1 e2 hl
  go_enter Try.func21, Try.ntmps21
  go_wp2_with fail
  refine KG.mono ?_
  rintro e w1 ⟨rfl, hb⟩
  have hb1 : Below (w.heap.size + 1) (w.alloc (.cells #[.slice a1 n2 k1, .slice a2 n2 k2] 33)) w1 := hb.mono (by simp)
  obtain ⟨f0, f1⟩ := box2 hb1
  have HB1 := Lib.hid hb1
  clear KG hb hb1
  go_wp2_with fail
  go_loopw [5, 6, 7, 16] (fun lo hi an s wr => ∃ (m : Nat) (l h : Int) (b : Bool), l = Lib.minOf (presL c m) ∧ h = Lib.maxOf (presL c m) ∧ b = decide (0 < (presL c m).length) ∧ lo = .int .i64 l ∧ hi = .int .i64 h ∧ an = .bool b ∧ s = .int .i64 m ∧ m ≤ n2 ∧ wr = w1) (fun _ _ _ s _ => n2 - (RowKit.intOf s).toNat)
  case atStart => exact ⟨0, _, _, _, rfl, rfl, rfl, rfl, rfl, rfl, rfl, Nat.zero_le _, rfl⟩
  case round =>
    obtain ⟨m, l, h, b, hl, hh, hb, rfl, rfl, rfl, rfl, hm, rfl⟩ := hrel
    by_cases hlt : m < n2
    · have hk1 : m < c.nl.length := by have := E1.out; omega
      have hk2 : m < c.il.length := by have := E2.out; omega
      have hb' : Below (w.alloc (.cells #[.slice a1 n2 k1, .slice a2 n2 k2] 33)).heap.size (w.alloc (.cells #[.slice a1 n2 k1, .slice a2 n2 k2] 33)) wr := by simpa using HB1.out
      have G1 := H1.out.below hb'
      have G2 := H2.out.below hb'
      obtain ⟨d1, rfl⟩ := G1.ptr (by omega)
      obtain ⟨d2, rfl⟩ := G2.ptr (by omega)
      have c1 := G1.cell (bls_get hk1)
      have c2 := G2.cell (i64s_get hk2)
      have b0 : (0 : Int) ≤ (m : Int) := Int.natCast_nonneg m
      have b1 : (m : Int) < (n2 : Int) := Int.ofNat_lt.2 hlt
      have hw64 := col_next hlt (by have := HL.out; omega)
      have hs : presL c (m + 1) = if c.nl.getD m false then presL c m else presL c m ++ [c.il.getD m 0] := rfl
      obtain ⟨nb, hbe⟩ : ∃ b, c.nl.getD m false = b := ⟨_, rfl⟩
      obtain ⟨x, hx⟩ : ∃ x, c.il.getD m 0 = x := ⟨_, rfl⟩
      rw [hbe, hx] at hs
      rw [hbe] at c1
      rw [hx] at c2
      have HH := Lib.hid (And.intro hl (And.intro hh hb))
      have HS := Lib.hid hs
      clear hk1 hk2 hbe hx hb' G1 G2 hl hh hb hs
      cases nb
      · cases b
        · have hR : Hid (x = Lib.minOf (presL c (m + 1)) ∧ x = Lib.maxOf (presL c (m + 1)) ∧ true = decide (0 < (presL c (m + 1)).length)) := Lib.hid (by
            have e0 : presL c m = [] := List.eq_nil_of_length_eq_zero (by have := HH.out.2.2; simp at this; simp [this])
            rw [HS.out, e0]
            simp only [Bool.false_eq_true, if_false, List.nil_append, min_one, max_one]
            exact ⟨trivial, trivial, rfl⟩)
          clear HS HH
          go_wp2_with fail
          go_roundw
          case rel => exact ⟨m + 1, _, _, _, hR.out.1, hR.out.2.1, hR.out.2.2, rfl, rfl, rfl, by go_num, hlt, trivial⟩
          case measure => simp [RowKit.intOf]; omega
        · have hR : Hid ((if x < l then x else l) = Lib.minOf (presL c (m + 1)) ∧ (if h < x then x else h) = Lib.maxOf (presL c (m + 1)) ∧ true = decide (0 < (presL c (m + 1)).length)) := Lib.hid (by
            have e0 : presL c m ≠ [] := fun e => by have := HH.out.2.2; rw [e] at this; simp at this
            rw [HS.out]
            simp only [Bool.false_eq_true, if_false, min_snoc e0, max_snoc e0, ← HH.out.1, ← HH.out.2.1]
            refine ⟨by split <;> omega, by split <;> omega, by simp⟩)
          clear HS HH
          by_cases q0 : x < l
          · have u0 : decide (x < l) = true := decide_eq_true q0
            rw [if_pos q0] at hR
            by_cases q1 : h < x
            · have u1 : decide (h < x) = true := decide_eq_true q1
              rw [if_pos q1] at hR
              clear q0 q1
              go_wp2_with fail
              go_roundw
              case rel => exact ⟨m + 1, _, _, _, hR.out.1, hR.out.2.1, hR.out.2.2, rfl, rfl, rfl, by go_num, hlt, trivial⟩
              case measure => simp [RowKit.intOf]; omega
            · have u1 : decide (h < x) = false := decide_eq_false q1
              rw [if_neg q1] at hR
              clear q0 q1
              go_wp2_with fail
              go_roundw
              case rel => exact ⟨m + 1, _, _, _, hR.out.1, hR.out.2.1, hR.out.2.2, rfl, rfl, rfl, by go_num, hlt, trivial⟩
              case measure => simp [RowKit.intOf]; omega
          · have u0 : decide (x < l) = false := decide_eq_false q0
            rw [if_neg q0] at hR
            by_cases q1 : h < x
            · have u1 : decide (h < x) = true := decide_eq_true q1
              rw [if_pos q1] at hR
              clear q0 q1
              go_wp2_with fail
              go_roundw
              case rel => exact ⟨m + 1, _, _, _, hR.out.1, hR.out.2.1, hR.out.2.2, rfl, rfl, rfl, by go_num, hlt, trivial⟩
              case measure => simp [RowKit.intOf]; omega
            · have u1 : decide (h < x) = false := decide_eq_false q1
              rw [if_neg q1] at hR
              clear q0 q1
              go_wp2_with fail
              go_roundw
              case rel => exact ⟨m + 1, _, _, _, hR.out.1, hR.out.2.1, hR.out.2.2, rfl, rfl, rfl, by go_num, hlt, trivial⟩
              case measure => simp [RowKit.intOf]; omega
      · have hR : Hid (l = Lib.minOf (presL c (m + 1)) ∧ h = Lib.maxOf (presL c (m + 1)) ∧ b = decide (0 < (presL c (m + 1)).length)) := Lib.hid (by rw [HS.out]; exact HH.out)
        clear HS HH
        go_wp2_with fail
        go_roundw
        case rel => exact ⟨m + 1, _, _, _, hR.out.1, hR.out.2.1, hR.out.2.2, rfl, rfl, rfl, by go_num, hlt, trivial⟩
        case measure => simp [RowKit.intOf]; omega
    · obtain rfl : m = n2 := by omega
      have HQ : Hid (rangeR (present c) = .returned (.tuple #[.int .i64 l, .int .i64 h, .bool b]) ∧ Below w.heap.size w wr) := Lib.hid ⟨by rw [HP.out, rangeR, ← hl, ← hh, ← hb], HB.out.trans (HB1.out.mono (by omega))⟩
      clear hl hh hb
      go_wp2_with fail
      go_ret3
      refine ⟨?_, HQ.out.2⟩
      rw [HQ.out.1]; rfl
end Go.Proofs.Ytknghmcdnlkfcaa
