/- Contract of the law's alike: a sketch and the reference's of the same value are alike; nothing that was there changes. Conditions: none. -/
import Derived.Test.YtadlfmdliinnnaaRKmvBytes
import Derived.Test.YtadlfmdliinnnaaRKmvEst
import Derived.Test.YtadlfmdliinnnaaKmvSide
set_option maxRecDepth 100000
namespace Go.Proofs.Ytadlfmdliinnnaa
open Go.RowKit Go.Maps Go.Sort

set_option maxHeartbeats 800000 in
theorem words_same {w : World} {a1 a2 : Option Addr} {n k1 k2 : Nat} {l : List Nat} (h1 : Holds w (.slice a1 n k1) (nats l)) (h2 : Holds w (.slice a2 n k2) (nats l)) (e1 : l.length = n) (hl : n ≤ 1000000) :
    Calls Try.prog 31 #[.slice a1 n k1, .slice a2 n k2] w (Draws (.bool true) w) := by
  have H1 := Lib.hid h1
  have H2 := Lib.hid h2
  have E1 := Lib.hid e1
  have t0 : ((n : Int) != (n : Int)) = false := by simp
  clear h1 h2 e1
  go_enter Try.func31, Try.ntmps31
  go_wp2_with fail
  go_loopw [5, 13] (fun _ i wr => ∃ k z : Nat, i = .int .i64 k ∧ k ≤ n ∧ wr = w.drewN z) (fun _ i _ => n - (intOf i).toNat)
  case atStart => exact ⟨0, 0, rfl, by omega, (World.drewN_zero _).symm⟩
  case round =>
    obtain ⟨k, z, rfl, hk, rfl⟩ := hrel
    by_cases hlt : k < n
    · have hk1 : k < l.length := by rw [E1.out]; exact hlt
      have g1 := H1.out
      have g2 := H2.out
      obtain ⟨d1, rfl⟩ := g1.ptr (by omega)
      obtain ⟨d2, rfl⟩ := g2.ptr (by omega)
      have c1 := g1.cell (nats_at hk1)
      have c2 := g2.cell (nats_at hk1)
      generalize l[k] = x at *
      have b1 : (k : Int) < (n : Int) := by omega
      have b0 : (0 : Int) ≤ (k : Int) := by omega
      have t1 : ((x : Int) != (x : Int)) = false := by simp
      clear g1 g2
      go_wp2_with fail
      go_quiet (fail)
      go_wp2_with fail
      go_roundw
      case rel => exact ⟨k + 1, _, by go_num, by omega, rfl⟩
      case measure => simp [intOf]; omega
    · go_wp2_with fail
      go_ret
      exact ⟨rfl, _, rfl⟩
set_option maxHeartbeats 800000 in
theorem ints_same {w : World} {a1 a2 : Option Addr} {n k1 k2 : Nat} {l : List Nat} (h1 : Holds w (.slice a1 n k1) (ints l)) (h2 : Holds w (.slice a2 n k2) (ints l)) (e1 : l.length = n) (hl : n ≤ 1000000) :
    Calls Try.prog 39 #[.slice a1 n k1, .slice a2 n k2] w (Draws (.bool true) w) := by
  have H1 := Lib.hid h1
  have H2 := Lib.hid h2
  have E1 := Lib.hid e1
  have t0 : ((n : Int) != (n : Int)) = false := by simp
  clear h1 h2 e1
  go_enter Try.func39, Try.ntmps39
  go_wp2_with fail
  go_loopw [5, 13] (fun _ i wr => ∃ k z : Nat, i = .int .i64 k ∧ k ≤ n ∧ wr = w.drewN z) (fun _ i _ => n - (intOf i).toNat)
  case atStart => exact ⟨0, 0, rfl, by omega, (World.drewN_zero _).symm⟩
  case round =>
    obtain ⟨k, z, rfl, hk, rfl⟩ := hrel
    by_cases hlt : k < n
    · have hk1 : k < l.length := by rw [E1.out]; exact hlt
      have g1 := H1.out
      have g2 := H2.out
      obtain ⟨d1, rfl⟩ := g1.ptr (by omega)
      obtain ⟨d2, rfl⟩ := g2.ptr (by omega)
      have c1 := g1.cell (ints_at hk1)
      have c2 := g2.cell (ints_at hk1)
      generalize l[k] = x at *
      have b1 : (k : Int) < (n : Int) := by omega
      have b0 : (0 : Int) ≤ (k : Int) := by omega
      have t1 : ((x : Int) != (x : Int)) = false := by simp
      clear g1 g2
      go_wp2_with fail
      go_quiet (fail)
      go_wp2_with fail
      go_roundw
      case rel => exact ⟨k + 1, _, by go_num, by omega, rfl⟩
      case measure => simp [intOf]; omega
    · go_wp2_with fail
      go_ret
      exact ⟨rfl, _, rfl⟩

/-- a cell of a row of numbers of one's own anew -/
theorem row_set {w : World} {B : Nat} {g n c q : Nat} {l : List Nat} (h : w.ownsRow B 32 1 (.slice (some ⟨g, 0, none⟩) n c) n (nats l)) (x : Nat) :
    (w.setCell ⟨g, q, none⟩ (.int .u64 (x : Int))).ownsRow B 32 1 (.slice (some ⟨g, 0, none⟩) n c) n (nats (l.set q x)) := by
  have hl := h.1
  rcases h.2 with ⟨e, _⟩ | ⟨g', cap, cur, e, hB, hg, h1, h2, h3, h4⟩
  · cases e
  · cases e
    refine ⟨by rw [nats_len, List.length_set, ← nats_len]; exact hl, .inr ⟨g, c, _, rfl, hB, heap_set hg _, h1, h2, by simp [h3], ?_⟩⟩
    rw [Array.toList_setIfInBounds, List.take_set, h4]
    simp [nats]
/-- all rows but one stay -/
theorem RowsAt.store {w : World} {B g i q : Nat} {rows : List Value} {L : List (List Nat)} {gi n c : Nat} (h : RowsAt w B g rows L) (hi : i < L.length) (hr : rows[i]? = some (.slice (some ⟨gi, 0, none⟩) n c)) (hn : L[i].length = n) (x : Nat) :
    RowsAt (w.setCell ⟨gi, q, none⟩ (.int .u64 (x : Int))) B g rows (L.set i (L[i].set q x)) := by
  have ho := h.row i _ L[i] hr (List.getElem?_eq_getElem hi)
  have hgg : gi ≠ g := fun e => row_ne_tab ho h.tab (by rw [e]; rfl)
  refine ⟨?_, h.hg, by rw [List.length_set]; exact h.len, fun j v l hv hl => ?_, h.apart⟩
  · rw [Below.heap_setCell _ _ _ _ (by simpa using hgg.symm)]; exact h.tab
  · by_cases e : j = i
    · subst e
      rw [hr] at hv
      rw [← Option.some.inj hv]
      rw [List.getElem?_set_self hi] at hl
      rw [← Option.some.inj hl, List.length_set, hn]
      rw [hn] at ho
      exact row_set ho x
    · rw [List.getElem?_set_ne (fun e' => e e'.symm)] at hl
      have h2 := h.row j v l hv hl
      exact ownsRow_of_block h2 fun y hy => Below.heap_setCell _ _ _ _ (fun e' => e (h.apart j i _ _ gi hv hr (by rw [hy, e']) rfl))
end Go.Proofs.Ytadlfmdliinnnaa
namespace Go.Proofs.Ytadlfmdliinnnaa
open Go.RowKit Go.Maps Go.Sort

/-- the copies while they are written over -/
structure AlSt (w W : World) (g : Nat) (rows : List Value) (L0 L : List (List Nat)) (m : Nat) : Prop where
  rows : RowsAt W w.heap.size g rows L
  ln : L.length = L0.length
  len : ∀ j, (L.getD j []).length = (L0.getD j []).length
  rest : ∀ j, m ≤ j → L.getD j [] = L0.getD j []
  base : Below w.heap.size w W
section
variable {w W W' : World} {g : Nat} {rows : List Value} {L0 L : List (List Nat)} {m k : Nat}
theorem AlSt.mono (h : AlSt w W g rows L0 L m) (hm : m ≤ k) : AlSt w W g rows L0 L k := ⟨h.rows, h.ln, h.len, fun j hj => h.rest j (by omega), h.base⟩
theorem AlSt.below (h : AlSt w W g rows L0 L m) (hb : Below W.heap.size W W') : AlSt w W' g rows L0 L m := ⟨h.rows.below hb, h.ln, h.len, h.rest, h.base.trans (hb.mono h.base.size)⟩
theorem AlSt.at_ (h : AlSt w W g rows L0 L m) (hk : k < L0.length) :
    ∃ a c, rows[k]? = some (.slice a (L0.getD k []).length c) ∧ W.cell? ⟨g, k, none⟩ = some (.slice a (L0.getD k []).length c) ∧ Holds W (.slice a (L0.getD k []).length c) (nats (L.getD k [])) := by
  have hkL : k < L.length := by rw [h.ln]; exact hk
  have hkr : k < rows.length := by rw [h.rows.len]; exact hkL
  have ho := h.rows.row k _ _ (List.getElem?_eq_getElem hkr) (List.getElem?_eq_getElem hkL)
  obtain ⟨a, c, e, _, _⟩ := ownsRow_form ho
  have hl := h.len k
  rw [getD_at hkL] at hl ⊢
  rw [hl] at e
  refine ⟨a, c, by rw [List.getElem?_eq_getElem hkr, e], ?_, ?_⟩
  · rw [cell_of_row _ _ _ _ _ _ h.rows.tab]
    simp [hkr, e]
  · rw [← e]
    exact Holds.of_row (by rw [nats_len]; exact ho)
theorem AlSt.store (h : AlSt w W g rows L0 L (k + 1)) (hk : k < L0.length) {a : Option Addr} {n c q : Nat} (hr : rows[k]? = some (.slice a n c)) (hq : q < n) (x : Nat) :
    ∃ gi, a = some ⟨gi, 0, none⟩ ∧ (∃ u, W.cell? ⟨gi, q, none⟩ = some u) ∧ W.frozen? ⟨gi, q, none⟩ = false ∧ ∃ L', AlSt w (W.setCell ⟨gi, q, none⟩ (.int .u64 (x : Int))) g rows L0 L' (k + 1) := by
  have hkL : k < L.length := by rw [h.ln]; exact hk
  have ho := h.rows.row k _ _ hr (List.getElem?_eq_getElem hkL)
  obtain ⟨a', c', e, _, _⟩ := ownsRow_form ho
  simp only [Value.slice.injEq] at e
  obtain ⟨_, e2, _⟩ := e
  rcases ho.2 with ⟨e3, _⟩ | ⟨gi, cap, cur, e3, hB, hg, h1, h2, h3, h4⟩
  · simp only [Value.slice.injEq] at e3
    omega
  · simp only [Value.slice.injEq] at e3
    obtain ⟨rfl, _, rfl⟩ := e3
    have hqc : q < cur.size := by rw [h3]; omega
    refine ⟨gi, rfl, ⟨cur[q], ?_⟩, ?_, L.set k (L[k].set q x), ?_⟩
    · simp [World.cell?, hg, hqc]
    · simp [World.frozen?, hg]
    · have hst := h.rows.store hkL hr e2.symm (q := q) x
      refine ⟨hst, by rw [List.length_set, h.ln], fun j => ?_, fun j hj => ?_, h.base.setCell hB _⟩
      · rw [← h.len j]
        by_cases e : j = k
        · subst e
          simp [List.getD_eq_getElem?_getD, hkL]
        · simp only [List.getD_eq_getElem?_getD]
          rw [List.getElem?_set_ne (fun e' => e e'.symm)]
      · rw [← h.rest j hj]
        simp only [List.getD_eq_getElem?_getD]
        rw [List.getElem?_set_ne (by omega)]
end

set_option maxHeartbeats 6400000 in
theorem alike_any {T : Tags} {i j : Nat} {w : World} {p q : Nat} {V : SkV} (h : Sk p V T i w) (hr : RSk q V T j w) :
    Calls Try.prog 20 #[.pointer (some ⟨p, 0, none⟩), .pointer (some ⟨q, 0, none⟩)] w fun e w' => e = .returned (.bool true) ∧ Below w.heap.size w w' := by
  have KA := Lib.hid (fun W (hb : Below w.heap.size w W) => answers_any ((Sk.framed p V).below h hb))
  have KRA := Lib.hid (fun W (hb : Below w.heap.size w W) => ranswers_any ((RSk.framed q V).below hr hb))
  have KE := Lib.hid (fun W (hb : Below w.heap.size w W) => estimate_any ((Sk.framed p V).below h hb))
  have KRE := Lib.hid (fun W (hb : Below w.heap.size w W) => restimate_any ((RSk.framed q V).below hr hb))
  have KB := Lib.hid (fun W (hb : Below w.heap.size w W) => bytes_any ((Sk.framed p V).below h hb))
  have KRB := Lib.hid (fun W (hb : Below w.heap.size w W) => rbytes_any ((RSk.framed q V).below hr hb))
  have KC := copies_any h
  obtain ⟨_, _, cb, cc, cur, g⟩ := hr
  have HOT := Lib.hid (fun W (hb : Below w.heap.size w W) => g.oth (i := j + 1) (by omega) (Else.of_below (O := fun k => T k = some (j + 1)) hb))
  have hN7 : V.L.length ≤ 7 := by rw [g.good.len]; exact g.good.set.n7
  have HSM := Lib.hid (fun m (hm : m < V.L.length) => show (V.L.getD m []).length ≤ 1000 by
    rw [getD_at hm]
    have := (g.good.row _ (List.getElem_mem hm)).len
    have := g.good.set.t64
    omega)
  have hA := V.answers_len
  clear h g
  generalize V.answers = A at *
  generalize bytesL V.L = bs at *
  generalize midOf A = z at *
  generalize hN : V.L.length = N at *
  have HN := Lib.hid hN
  have HA := Lib.hid hA
  clear hN hA
  go_enter Try.func20, Try.ntmps20
  go_wp2_with fail
  refine KC.mono ?_
  rintro e w1 ⟨g, rows, rfl, hrw, hb1⟩
  rw [HN.out]
  have o2 := (HOT.out w1 hb1).c2
  rw [HN.out] at o2
  have HW1 := Lib.hid hrw
  have HB1 := Lib.hid hb1
  have K1 := KA.out w1 hb1
  have t0 : ((N : Int) != (N : Int)) = false := by simp
  clear KC hrw hb1 KA
  go_wp2_with fail
  refine K1.mono ?_
  rintro e w2 ⟨ga, rfl, _, hga, hb2⟩
  have HB2 := Lib.hid (HB1.out.trans (hb2.mono HB1.out.size))
  have HW2 := Lib.hid (HW1.out.below hb2)
  have HI2 := Lib.hid (Holds.of_heap hga (l := ints A) (by simp [ints]) A.length A.length (by simp [ints]) (Nat.le_refl _))
  have K2 := KRA.out w2 HB2.out
  rw [HA.out] at HI2 ⊢
  clear K1 hga hb2 KRA HW1 HB1 o2
  go_wp2_with fail
  refine K2.mono ?_
  rintro e w3 ⟨va, rfl, ho3, hb3⟩
  have HB3 := Lib.hid (HB2.out.trans (hb3.mono HB2.out.size))
  have HW3 := Lib.hid (HW2.out.below hb3)
  obtain ⟨aa, ca, rfl, _, _⟩ := ownsRow_form ho3
  have hI2 := HI2.out.below hb3
  have K3 := ints_same hI2 (by have := Holds.of_row (by rw [ints_len]; exact ho3); rw [HA.out] at this; exact this) HA.out (by omega)
  rw [HA.out]
  clear K2 ho3 hb3 HI2 hI2 HB2 HW2
  go_wp2_with fail
  refine K3.mono ?_
  rintro e w4 ⟨rfl, z4, rfl⟩
  have HB4 := Lib.hid (below_dN HB3.out z4)
  have HW4 := Lib.hid (HW3.out.below (below_drewN w3 z4))
  obtain ⟨W4, hW4⟩ : ∃ W4, W4 = w3.drewN z4 := ⟨_, rfl⟩
  rw [← hW4] at HB4 HW4 ⊢
  have K4 := KE.out W4 HB4.out
  clear K3 HB3 HW3 hW4 KE
  go_wp2_with fail
  refine K4.mono ?_
  rintro e w5 ⟨rfl, hb5⟩
  have HB5 := Lib.hid (HB4.out.trans (hb5.mono HB4.out.size))
  have HW5 := Lib.hid (HW4.out.below hb5)
  have K5 := KRE.out w5 HB5.out
  have tz : (z != z) = false := by simp
  clear K4 hb5 HB4 HW4 KRE
  go_wp2_with fail
  refine K5.mono ?_
  rintro e w6 ⟨rfl, hb6⟩
  have HB6 := Lib.hid (HB5.out.trans (hb6.mono HB5.out.size))
  have HW6 := Lib.hid (HW5.out.below hb6)
  have K6 := KB.out w6 HB6.out
  clear K5 hb6 HB5 HW5 KB
  go_wp2_with fail
  refine K6.mono ?_
  rintro e w7 ⟨v7, rfl, ho7, hb7⟩
  have HB7 := Lib.hid (HB6.out.trans (hb7.mono HB6.out.size))
  have HW7 := Lib.hid (HW6.out.below hb7)
  have H7 := Lib.hid (Holds.of_row (by rw [u8s_len]; exact ho7))
  have K7 := KRB.out w7 HB7.out
  clear K6 hb7 HB6 HW6 KRB ho7
  go_wp2_with fail
  refine K7.mono ?_
  rintro e w8 ⟨v8, rfl, ho8, hb8⟩
  have HB8 := Lib.hid (HB7.out.trans (hb8.mono HB7.out.size))
  have HW8 := Lib.hid (HW7.out.below hb8)
  have KS := Same_any (H7.out.below hb8) (Holds.of_row (by rw [u8s_len]; exact ho8))
  simp only [decide_true] at KS
  clear K7 hb8 HB7 HW7 ho8 H7
  go_wp2_with fail
  refine KS.mono ?_
  rintro e w9 ⟨rfl, rfl⟩
  have HST : Hid (AlSt w w8 g rows V.L V.L 0) := Lib.hid ⟨HW8.out, rfl, fun _ => rfl, fun _ _ => rfl, HB8.out⟩
  clear KS HB8 HW8 tz
  go_wp2_with fail
  go_loopw [6, 7, 43] (fun _ _ k wr => ∃ m : Nat, k = .int .i64 m ∧ m ≤ N ∧ Hid (∃ L, AlSt w wr g rows V.L L m)) (fun _ _ k _ => N - (intOf k).toNat)
  case atStart => exact ⟨0, rfl, Nat.zero_le _, _, HST.out⟩
  case round =>
    obtain ⟨m, rfl, hm, HR⟩ := hrel
    by_cases hlt : m < N
    · obtain ⟨L, hS⟩ := HR.out
      have hmV : m < V.L.length := by rw [HN.out]; exact hlt
      obtain ⟨a, c, hrm, c3, hH⟩ := hS.at_ hmV
      have o2 := (HOT.out wr hS.base).c2
      rw [HN.out] at o2
      obtain ⟨rv, hrv, o3, hH2⟩ := (HOT.out wr hS.base).row m hmV
      obtain ⟨ra, rk, rfl, _⟩ := hH2.form
      rw [hS.rest m (Nat.le_refl _)] at hH
      have hln := HSM.out m hlt
      rw [nats_len] at o3 hH2
      have KW := Lib.hid (fun n => words_same (w := wr.drewN n) hH hH2 rfl (by omega))
      have HS := Lib.hid (fun n => show ∃ L, AlSt w (wr.drewN n) g rows V.L L (m + 1) from ⟨L, (hS.mono (by omega)).below (below_drewN _ _)⟩)
      have HRM := Lib.hid hrm
      have HMV := Lib.hid hmV
      clear hrm hH hH2 hS HR hrv
      generalize (V.L.getD m []).length = n at *
      have b0 : (0 : Int) ≤ (m : Int) := by omega
      have b1 : (m : Int) < (N : Int) := by omega
      go_wp2_with fail
      go_quiet ((exact Calls.quiet_of (KW.out _)))
      go_wp2_with fail
      go_loopw [7, 64] (fun _ k wq => ∃ r : Nat, k = .int .i64 r ∧ r ≤ n ∧ Hid (∃ L, AlSt w wq g rows V.L L (m + 1))) (fun _ k _ => n - (intOf k).toNat)
      case atStart => exact ⟨0, rfl, Nat.zero_le _, HS.out _⟩
      case round =>
        obtain ⟨r, rfl, hr, HQ⟩ := hrel
        clear o2 o3 c3
        by_cases hrn : r < n
        · obtain ⟨L, hS⟩ := HQ.out
          obtain ⟨gi, rfl, ⟨u, cu⟩, fu, L', hS'⟩ := hS.store HMV.out HRM.out hrn 3
          have HF : Hid (∃ L, AlSt w (wr.setCell ⟨gi, r, none⟩ (.int .u64 3)) g rows V.L L (m + 1)) := Lib.hid ⟨_, hS'⟩
          have c3 : wr.cell? ⟨g, m, none⟩ = some (.slice (some ⟨gi, 0, none⟩) n c) := by
            have := HRM.out
            rw [cell_of_row _ _ _ _ _ _ hS.rows.tab]
            simpa using this
          have q0 : (0 : Int) ≤ (r : Int) := by omega
          have q1 : (r : Int) < (n : Int) := by omega
          clear hS hS' HQ
          go_wp2_with fail
          go_roundw
          case rel => exact ⟨r + 1, by go_num, by omega, HF⟩
          case measure => simp [intOf]; omega
        · go_wp2_with fail
          go_roundw
          case rel => exact ⟨m + 1, by go_num, by omega, HQ⟩
          case measure => simp [intOf]; omega
    · obtain ⟨L, hS⟩ := HR.out
      have HF := Lib.hid hS.base
      clear HR hS
      go_wp2_with fail
      go_ret
      exact ⟨rfl, HF.out⟩
end Go.Proofs.Ytadlfmdliinnnaa
