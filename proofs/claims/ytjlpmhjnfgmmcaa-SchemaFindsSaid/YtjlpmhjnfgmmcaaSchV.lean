/- Contract of the document's Table. Conditions: none. -/
import Derived.Test.YtjlpmhjnfgmmcaaSchU
set_option maxRecDepth 100000
namespace Go.Proofs.Ytjlpmhjnfgmmcaa
open Go.RowKit Go.Maps Go.Sort Go.Lib

theorem no_any {α : Type} {l : List α} {p : α → Bool} {n : Nat} (hl : l.length = n) (h : ∀ (j : Nat) (y : α), j < n → l[j]? = some y → p y = false) : l.any p = false :=
  any_false (fun j y hy => h j y (by have := (List.getElem?_eq_some_iff.1 hy).1; omega) hy)
theorem is_any {α : Type} {l : List α} {p : α → Bool} {i : Nat} {x : α} (hx : l[i]? = some x) (hp : p x = true) : l.any p = true := List.any_eq_true.2 ⟨x, List.mem_of_getElem? hx, hp⟩
theorem no_next {α : Type} {l : List α} {p : α → Bool} {i : Nat} {x : α} (h : ∀ (j : Nat) (y : α), j < i → l[j]? = some y → p y = false) (hx : l[i]? = some x) (hp : p x = false) : ∀ (j : Nat) (y : α), j < i + 1 → l[j]? = some y → p y = false := fun j y hj hy => by
  by_cases e : j = i
  · subst e; rw [hx] at hy; cases hy; exact hp
  · exact h j y (by omega) hy
theorem tabE_3 {tn : ByteArray} {cs : Cl} (h : nmB tn = false ∨ cs.any misB = true) : tabE tn cs = 3 := by
  unfold tabE
  rw [if_pos]
  rcases h with h | h
  · rw [h]; rfl
  · rw [h]; simp
theorem tabE_2 {tn : ByteArray} {cs : Cl} (h1 : nmB tn = true) (h2 : cs.any misB = false) (h : fewN cs.length 8 = false ∨ cs.any oddB = true) : tabE tn cs = 2 := by
  unfold tabE
  rw [h1, h2, if_neg (by decide), if_pos]
  rcases h with h | h
  · rw [h]; rfl
  · rw [h]; simp
theorem tabE_l {tn : ByteArray} {cs : Cl} (h1 : nmB tn = true) (h2 : cs.any misB = false) (h3 : fewN cs.length 8 = true) (h4 : cs.any oddB = false) : tabE tn cs = if dupL (cs.map (·.1)) = true then 5 else 0 := by
  unfold tabE
  rw [h1, h2, h3, h4, if_neg (by decide), if_neg (by decide)]
set_option maxHeartbeats 6400000 in
theorem refTable_any {w : World} {p : Option Addr} {n k : Nat} {cs : Cl} (hr : Holds2 w (.slice p n k) (cs.map colC)) (hl : cs.length = n) (hn : n ≤ 9223372036854775807) (tn : ByteArray) :
    Calls Try.prog 14 #[.agg #[.string tn, .slice p n k]] w fun e w' => e = .returned (.int .i64 (tabE tn cs)) ∧ Below w.heap.size w w' := by
  have hb1 := box_below w (.cells #[.string tn, .slice p n k] 26)
  have hT : TabBox (w.alloc (.cells #[.string tn, .slice p n k] 26)) w.heap.size tn p n k cs := ⟨heap_alloc_new w _, hr.below hb1, hl⟩
  have HT := Lib.hid (And.intro hT hb1)
  have KN := refName_any
  have HF := Lib.hid hl
  have HN := Lib.hid hn
  obtain ⟨R, hR⟩ : ∃ R, tabE tn cs = R := ⟨_, rfl⟩
  obtain ⟨b1, h1⟩ : ∃ b, nmB tn = b := ⟨_, rfl⟩
  rw [hR]
  have HR := Lib.hid hR
  have H1 := Lib.hid h1
  have K1 := KN tn
  unfold nmB at h1
  rw [h1] at K1
  have HK := Lib.hid KN
  clear KN h1 hT hb1 hr hl hn hR
  cases b1
  · have HE : Hid (R = 3) := Lib.hid (by rw [← HR.out]; exact tabE_3 (.inl H1.out))
    go_enter Try.func14, Try.ntmps14
    go_wp2_with fail
    refine (K1 _).mono ?_
    rintro e w1 ⟨rfl, rfl⟩
    go_wp2_with fail
    go_ret
    exact ⟨ret_int HE.out.symm, HT.out.2⟩
  go_enter Try.func14, Try.ntmps14
  go_wp2_with fail
  refine (K1 _).mono ?_
  rintro e w1 ⟨rfl, rfl⟩
  clear K1
  go_wp2_with fail
  -- the names
  go_loopw [17] (fun s' W => ∃ i : Nat, s' = .int .i64 i ∧ i ≤ n ∧ Hid (TabBox W w.heap.size tn p n k cs ∧ Below w.heap.size w W) ∧ Hid (∀ (j : Nat) (y : ByteArray × Int), j < i → cs[j]? = some y → misB y = false)) (fun s' _ => n - (intOf s').toNat)
  case atStart => exact ⟨0, rfl, by omega, HT, Lib.hid (fun j y hj => by omega)⟩
  case round =>
    clear HT
    obtain ⟨i, rfl, hi, hb, hno⟩ := hrel
    have hlt0 := hi
    by_cases hlt : i < n
    · obtain ⟨x, hx⟩ : ∃ x, cs[i]? = some x := ⟨_, List.getElem?_eq_getElem (by rw [HF.out]; exact hlt)⟩
      obtain ⟨ad, rfl, c0, c1⟩ := hb.out.1.cols.at_ (show (cs.map colC)[i]? = some (colC x) by rw [List.getElem?_map, hx]; rfl)
      simp only [colC] at c0 c1
      have HX := Lib.hid hx
      have hlt' : (i : Int) < (n : Int) := Int.ofNat_lt.2 hlt
      have b0 : (0 : Int) ≤ (i : Int) := Int.natCast_nonneg i
      have hw := i_next (p := i) (by have := HN.out; omega)
      have HLT := Lib.hid hlt
      have hbx := box_below wr (.cells #[.string x.1, .int .i64 x.2] 49)
      have HB2 := Lib.hid (And.intro (hb.out.1.below hbx) (hb.out.2.trans (hbx.mono hb.out.2.size)))
      have KX := HK.out x.1
      have HM : Hid (misB x = !nameL x.1.data.toList) := Lib.hid rfl
      generalize nameL x.1.data.toList = nb at *
      clear hx hi hlt hlt0 hbx hb
      cases nb
      · have HE : Hid (R = 3) := Lib.hid (by rw [← HR.out]; exact tabE_3 (.inr (is_any HX.out (by rw [HM.out]; rfl))))
        clear hno
        go_wp2_with fail
        refine (KX _).mono ?_
        rintro e w2 ⟨rfl, rfl⟩
        go_wp2_with fail
        go_ret
        exact ⟨ret_int HE.out.symm, HB2.out.2⟩
      · have HNO := Lib.hid (no_next hno.out HX.out (by rw [HM.out]; rfl))
        clear hno
        go_wp2_with fail
        refine (KX _).mono ?_
        rintro e w2 ⟨rfl, rfl⟩
        go_wp2_with fail
        go_roundw
        case rel => exact ⟨i + 1, by go_num, by have := HLT.out; omega, HB2, HNO⟩
        case measure => have := HLT.out; simp [intOf]; omega
    have hin : i = n := by omega
    subst hin
    have G2 : Hid (cs.any misB = false) := Lib.hid (no_any HF.out hno.out)
    obtain ⟨d0, d1⟩ := hb.out.1.cells
    have hlt' : ¬ ((i : Int) < (i : Int)) := by omega
    clear hno hlt hi hlt0
    by_cases hf : i < 1
    · have HE : Hid (R = 2) := Lib.hid (by rw [← HR.out]; exact tabE_2 H1.out G2.out (.inl (by rw [HF.out]; exact decide_eq_false (by omega))))
      have t0 : decide ((i : Int) < 1) = true := decide_eq_true (by omega)
      clear hf
      go_wp2_with fail
      go_ret
      exact ⟨ret_int HE.out.symm, hb.out.2⟩
    have t0 : decide ((i : Int) < 1) = false := decide_eq_false (by omega)
    by_cases hf8 : 8 < i
    · have HE : Hid (R = 2) := Lib.hid (by rw [← HR.out]; exact tabE_2 H1.out G2.out (.inl (by rw [HF.out]; exact decide_eq_false (by omega))))
      have t1 : decide ((8 : Int) < (i : Int)) = true := decide_eq_true (by omega)
      clear hf hf8
      go_wp2_with fail
      go_ret
      exact ⟨ret_int HE.out.symm, hb.out.2⟩
    have t1 : decide ((8 : Int) < (i : Int)) = false := decide_eq_false (by omega)
    have G3 : Hid (fewN cs.length 8 = true) := Lib.hid (by rw [HF.out]; exact decide_eq_true (by omega))
    have H8 : Hid (i ≤ 8) := Lib.hid (by omega)
    clear hf hf8
    go_wp2_with fail
    clear t0 t1 d0 d1 hlt'
    -- the kinds
    obtain ⟨N, hN⟩ : ∃ N, N = i := ⟨_, rfl⟩
    go_loopw [39] (fun s' W => ∃ q : Nat, s' = .int .i64 q ∧ q ≤ i ∧ Hid (TabBox W w.heap.size tn p i k cs ∧ Below w.heap.size w W) ∧ Hid (∀ (j : Nat) (y : ByteArray × Int), j < q → cs[j]? = some y → oddB y = false)) (fun s' _ => i - (intOf s').toNat)
    case atStart => exact ⟨0, rfl, by omega, hb, Lib.hid (fun j y hj => by omega)⟩
    case round =>
      clear hb
      obtain ⟨q, rfl, hq, hb, hno⟩ := hrel
      by_cases hlt : q < i
      · obtain ⟨x, hx⟩ : ∃ x, cs[q]? = some x := ⟨_, List.getElem?_eq_getElem (by rw [HF.out]; exact hlt)⟩
        obtain ⟨ad, rfl, c0, c1⟩ := hb.out.1.cols.at_ (show (cs.map colC)[q]? = some (colC x) by rw [List.getElem?_map, hx]; rfl)
        obtain ⟨x, z⟩ := x
        simp only [colC] at c0 c1
        have HX := Lib.hid hx
        have hlt' : (q : Int) < (i : Int) := Int.ofNat_lt.2 hlt
        have b0 : (0 : Int) ≤ (q : Int) := Int.natCast_nonneg q
        have hw := i_next (p := q) (by have := HN.out; omega)
        have HLT := Lib.hid hlt
        have hbx := box_below wr (.cells #[.string x, .int .i64 z] 49)
        have HB2 := Lib.hid (And.intro (hb.out.1.below hbx) (hb.out.2.trans (hbx.mono hb.out.2.size)))
        clear hx hq hlt hb hbx
        by_cases z1 : z < 1
        · have u1 : decide (z < 1) = true := decide_eq_true z1
          have HE : Hid (R = 2) := Lib.hid (by rw [← HR.out]; exact tabE_2 H1.out G2.out (.inr (is_any HX.out (decide_eq_true (.inl z1)))))
          clear z1 hno
          go_wp2_with fail
          go_ret
          exact ⟨ret_int HE.out.symm, HB2.out.2⟩
        have u1 : decide (z < 1) = false := decide_eq_false z1
        by_cases z2 : 4 < z
        · have u2' : decide (4 < z) = true := decide_eq_true z2
          have HE : Hid (R = 2) := Lib.hid (by rw [← HR.out]; exact tabE_2 H1.out G2.out (.inr (is_any HX.out (decide_eq_true (.inr z2)))))
          clear z1 z2 hno
          go_wp2_with fail
          go_ret
          exact ⟨ret_int HE.out.symm, HB2.out.2⟩
        have u2' : decide (4 < z) = false := decide_eq_false z2
        have HNO := Lib.hid (no_next hno.out HX.out (show oddB (x, z) = false from decide_eq_false (by omega)))
        clear z1 z2 hno
        go_wp2_with fail
        go_roundw
        case rel => exact ⟨q + 1, by go_num, by have := HLT.out; omega, HB2, HNO⟩
        case measure => have := HLT.out; simp [intOf]; omega
      have hqi : q = i := by omega
      subst hqi
      have G4 := Lib.hid (tabE_l H1.out G2.out G3.out (no_any HF.out hno.out))
      have hlt' : ¬ ((q : Int) < (q : Int)) := by omega
      obtain ⟨d0, d1⟩ := hb.out.1.cells
      clear hno hlt hq
      go_wp2_with fail
      clear d0 d1 hlt'
      -- twice
      go_loopw [55] (fun s' W => ∃ i : Nat, s' = .int .i64 i ∧ i ≤ q ∧ Hid (TabBox W w.heap.size tn p q k cs ∧ Below w.heap.size w W) ∧ Hid (((cs.map (·.1)).take i).Nodup)) (fun s' _ => q - (intOf s').toNat)
      case atStart => exact ⟨0, rfl, by omega, hb, Lib.hid (by simp)⟩
      case round =>
        clear hb
        obtain ⟨i, rfl, hi, hb, hno⟩ := hrel
        obtain ⟨vr, hvr⟩ : ∃ v, v = wr := ⟨_, rfl⟩
        subst hvr
        by_cases hlt : i < q
        · obtain ⟨x, hx⟩ : ∃ x, cs[i]? = some x := ⟨_, List.getElem?_eq_getElem (by rw [HF.out]; exact hlt)⟩
          obtain ⟨ad, rfl, c0, c1⟩ := hb.out.1.cols.at_ (show (cs.map colC)[i]? = some (colC x) by rw [List.getElem?_map, hx]; rfl)
          obtain ⟨x, z⟩ := x
          simp only [colC] at c0 c1
          have HX : Hid ((cs.map (·.1))[i]? = some x) := Lib.hid (by rw [List.getElem?_map, hx]; rfl)
          have hlt' : (i : Int) < (q : Int) := Int.ofNat_lt.2 hlt
          have b0 : (0 : Int) ≤ (i : Int) := Int.natCast_nonneg i
          have hw := i_next (p := i) (by have := HN.out; omega)
          have HLT := Lib.hid hlt
          have hbx := box_below vr (.cells #[.string x, .int .i64 z] 49)
          have HS0 : Hid ((TabBox (vr.alloc (.cells #[.string x, .int .i64 z] 49)) w.heap.size tn (some ad) q k cs ∧ Below w.heap.size w (vr.alloc (.cells #[.string x, .int .i64 z] 49))) ∧ (vr.alloc (.cells #[.string x, .int .i64 z] 49)).heap[vr.heap.size]? = some (.cells #[.string x, .int .i64 z] 49 (0, 0))) :=
            Lib.hid ⟨⟨hb.out.1.below hbx, hb.out.2.trans (hbx.mono hb.out.2.size)⟩, heap_alloc_new vr _⟩
          clear hx hi hlt hb hbx
          go_wp2_with fail
          clear c0 c1
          go_loopw [9] (fun s' W => ∃ j : Nat, s' = .int .i64 j ∧ j ≤ i ∧ Hid ((TabBox W w.heap.size tn (some ad) q k cs ∧ Below w.heap.size w W) ∧ W.heap[vr.heap.size]? = some (.cells #[.string x, .int .i64 z] 49 (0, 0))) ∧ Hid (∀ (m : Nat), m < j → (cs.map (·.1))[m]? ≠ some x)) (fun s' _ => i - (intOf s').toNat)
          case atStart => exact ⟨0, rfl, by omega, HS0, Lib.hid (fun m hm => by omega)⟩
          case round =>
            clear HS0
            obtain ⟨j, rfl, hj, hb, hnoj⟩ := hrel
            obtain ⟨y, hy⟩ : ∃ y, cs[j]? = some y := ⟨_, List.getElem?_eq_getElem (by have := HF.out; have := HLT.out; omega)⟩
            have HLJ : Hid (j < q) := Lib.hid (by have := HLT.out; omega)
            by_cases hji : j < i
            · obtain ⟨ad', e', c0, c1⟩ := hb.out.1.1.cols.at_ (show (cs.map colC)[j]? = some (colC y) by rw [List.getElem?_map, hy]; rfl)
              cases e'
              obtain ⟨y, z'⟩ := y
              simp only [colC] at c0 c1
              obtain ⟨d0, d1⟩ := hb.out.1.1.cells
              have e0 := cell_of_row _ _ 0 _ _ _ hb.out.2
              simp at e0
              have HY : Hid ((cs.map (·.1))[j]? = some y) := Lib.hid (by rw [List.getElem?_map, hy]; rfl)
              have l1 : (j : Int) < (i : Int) := Int.ofNat_lt.2 hji
              have l2 : (j : Int) < (q : Int) := by have := HLJ.out; omega
              have l0 : (0 : Int) ≤ (j : Int) := Int.natCast_nonneg j
              have hwj := i_next (p := j) (by have := HN.out; have := HLJ.out; omega)
              have HJI := Lib.hid hji
              have t0 := same_str y x
              cases hq : decide (y = x)
              · rw [hq] at t0
                have HNO : Hid (∀ (m : Nat), m < j + 1 → (cs.map (·.1))[m]? ≠ some x) := Lib.hid (fun m hm h => by
                  by_cases e : m = j
                  · subst e; rw [HY.out] at h; cases h; exact absurd rfl (of_decide_eq_false hq)
                  · exact hnoj.out m (by omega) h)
                have HS2 := Lib.hid (fun n' => (⟨⟨⟨hb.out.1.1.box, hb.out.1.1.cols, hb.out.1.1.len⟩, bel_dN hb.out.1.2 n'⟩, hb.out.2⟩ : (TabBox (wr.drewN n') w.heap.size tn (some ad) q k cs ∧ Below w.heap.size w (wr.drewN n')) ∧ (wr.drewN n').heap[vr.heap.size]? = some (.cells #[.string x, .int .i64 z] 49 (0, 0))))
                clear hy hq hji hj hb hnoj
                go_wp2_with fail
                go_quiet (fail)
                go_wp2_with fail
                go_roundw
                case rel => exact ⟨j + 1, by go_num, by have := HJI.out; omega, Lib.hid (HS2.out _), HNO⟩
                case measure => have := HJI.out; simp [intOf]; omega
              · rw [hq] at t0
                have hv := of_decide_eq_true hq
                subst hv
                have HE : Hid (R = 5) := Lib.hid (by
                  rw [← HR.out, G4.out, dup_yes hji HY.out HX.out]; rfl)
                clear hy hq hji hj hnoj
                go_wp2_with fail
                go_quiet (fail)
                go_wp2_with fail
                go_ret
                exact ⟨ret_int HE.out.symm, bel_dN hb.out.1.2 _⟩
            · have hji2 : j = i := by omega
              subst hji2
              have HNO := Lib.hid (nodup_snoc HX.out hno.out hnoj.out)
              have HB := Lib.hid hb.out.1
              have l1 : ¬ ((j : Int) < (j : Int)) := by omega
              clear hy hji hj hb hnoj hno
              go_wp2_with fail
              go_roundw
              case rel => exact ⟨j + 1, by go_num, by have := HLT.out; omega, HB, HNO⟩
              case measure => have := HLT.out; simp [intOf]; omega
        have hiq : i = q := by omega
        subst hiq
        have HE : Hid (R = 0) := Lib.hid (by
          rw [← HR.out, G4.out, dup_no (by rw [List.length_map, HF.out]; exact hno.out)]; rfl)
        have hlt' : ¬ ((i : Int) < (i : Int)) := by omega
        clear hno
        go_wp2_with fail
        go_ret
        exact ⟨ret_int HE.out.symm, hb.out.2⟩
end Go.Proofs.Ytjlpmhjnfgmmcaa
