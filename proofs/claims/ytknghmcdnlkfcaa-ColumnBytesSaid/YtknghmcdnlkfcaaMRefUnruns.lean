/- Contract of talusref02.Unruns. Conditions: at most 300000 bytes. -/
import Derived.Test.YtknghmcdnlkfcaaMRefRuns
set_option maxRecDepth 100000
namespace Go.Proofs.Ytknghmcdnlkfcaa
open Go.RowKit Go.Maps Go.Sort

/-- what Unruns answers behind these numbers -/
def unrF (acc : List UInt64) (bs : List UInt8) : List UInt64 × Int := if pairsBad bs then ([], 8) else match (pairsOf (numsOf bs).1).foldl unrStep (some acc) with | none => ([], 8) | some a => (a, 0)
theorem unrF_start (bs : List UInt8) : unrF [] bs = unrAns bs := rfl
theorem unrF_nil (acc : List UInt64) : unrF acc [] = (acc, 0) := by
  have h : pairsBad [] = false := by rw [pairsBad, nums_nil]; rfl
  rw [unrF, h, nums_nil]; rfl
theorem unrF_bad1 {acc : List UInt64} {bs : List UInt8} (h : bs ≠ []) (h2 : (getN bs).2 = 0) : unrF acc bs = ([], 8) := by
  have h : pairsBad bs = true := by rw [pairsBad, nums_bad h h2]; rfl
  rw [unrF, h]; rfl
theorem unrF_bad2 {acc : List UInt64} {bs : List UInt8} (h : bs ≠ []) (h2 : (getN bs).2 ≠ 0) (h3 : (getN (bs.drop (getN bs).2)).2 = 0) : unrF acc bs = ([], 8) := by
  have h : pairsBad bs = true := by
    rw [pairsBad, nums_more h h2]
    by_cases h4 : bs.drop (getN bs).2 = []
    · rw [h4, nums_nil]; rfl
    · rw [nums_bad h4 h3]; rfl
  rw [unrF, h]; rfl
theorem unrF_more {acc : List UInt64} {bs : List UInt8} {n m u k : Nat} (h : bs ≠ []) (h1 : (getN bs).1 = u) (h2 : (getN bs).2 = n) (h3 : n ≠ 0) (h4 : (getN (bs.drop n)).1 = k) (h5 : (getN (bs.drop n)).2 = m) (h6 : m ≠ 0) :
    unrF acc bs = if acc.getLast? = some (UInt64.ofNat u) ∨ k = 0 ∨ 100000 - acc.length < k then ([], 8) else unrF (acc ++ List.replicate k (UInt64.ofNat u)) (bs.drop (n + m)) := by
  have h7 : bs.drop n ≠ [] := by
    intro e
    rw [e] at h5
    exact h6 h5.symm
  have e1 : numsOf bs = (u :: k :: (numsOf (bs.drop (n + m))).1, (numsOf (bs.drop (n + m))).2) := by
    rw [nums_more h (by rw [h2]; exact h3), h1, h2, nums_more h7 (by rw [h5]; exact h6), h4, h5, List.drop_drop]
  have e2 : pairsBad bs = pairsBad (bs.drop (n + m)) := by
    rw [pairsBad, pairsBad, e1]
    simp only [List.length_cons]
    congr 1
    rw [Bool.eq_iff_iff]; simp; omega
  rw [unrF, e2, e1]
  show (if pairsBad (bs.drop (n + m)) = true then ([], 8) else match (pairsOf (numsOf (bs.drop (n + m))).1).foldl unrStep (if acc.getLast? = some (UInt64.ofNat u) ∨ k = 0 ∨ 100000 - acc.length < k then none else some (acc ++ List.replicate k (UInt64.ofNat u))) with | none => (([] : List UInt64), (8 : Int)) | some a => (a, 0)) = _
  by_cases hc : acc.getLast? = some (UInt64.ofNat u) ∨ k = 0 ∨ 100000 - acc.length < k
  · rw [if_pos hc, if_pos hc, unr_none]
    split <;> rfl
  · rw [if_neg hc, if_neg hc]
    rfl
/-- one number behind a row of the call's own -/
theorem u64_step {w wr : World} {v : Value} {acc : List UInt64} (h : wr.ownsRow w.heap.size 61 1 v acc.length (u64s acc)) (hb : Below w.heap.size w wr) (hl : acc.length ≤ 1000000) (U : UInt64) {y : Nat} (hy : U.toNat = y) :
    ∃ v' w2, Hid (∀ ty, (Builtin.append_ #[63, 63] ty #[v, .slice (some ⟨wr.heap.size, 0, none⟩) 1 1]).run Try.prog (wr.alloc (.cells #[.int .u64 (y : Int)] 61)) = .ok v' w2) ∧ Hid (w2.ownsRow w.heap.size 61 1 v' (acc ++ [U]).length (u64s (acc ++ [U])) ∧ Below w.heap.size w w2) := by
  have hrow : (wr.alloc (.cells #[.int .u64 (y : Int)] 61)).ownsRow w.heap.size 61 1 v acc.length (u64s acc) := ownsRow_of_block h (fun g hg => Below.heap_alloc _ _ _ (h.lt g hg).2)
  have hs : Holds (wr.alloc (.cells #[.int .u64 (y : Int)] 61)) (.slice (some ⟨wr.heap.size, 0, none⟩) 1 1) (u64s [U]) := Holds.of_heap (alloc1 wr _) (by rw [← hy]; rfl) 1 1 rfl (Nat.le_refl _)
  obtain ⟨v', w2, r, o, g, _⟩ := appU hrow (by have := hb.size; rw [World.size_alloc]; omega) hs (by simp; omega)
  refine ⟨v', w2, Lib.hid r, Lib.hid ⟨o, (hb.trans (((Below.refl wr.heap.size wr).alloc (Nat.le_refl _) _).mono hb.size)).trans ⟨g.os, g.tape, g.output, g.size, fun b hb2 => g.block b ?_ (fun e => ?_)⟩⟩⟩
  · have := hb.size; rw [World.size_alloc]; omega
  · have := (hrow.lt b e.symm).1; omega

set_option maxHeartbeats 3200000 in
theorem refUnruns_any {w : World} {v : Value} {l : List UInt8} (h : Holds w v (u8s l)) (hl : l.length ≤ 300000) :
    Calls Try.prog 53 #[v] w fun e w' => ∃ r, e = .returned (.tuple #[r, .int .i64 (unrAns l).2]) ∧ Hid (w'.ownsRow w.heap.size 61 1 r (unrAns l).1.length (u64s (unrAns l).1) ∧ Below w.heap.size w w') := by
  obtain ⟨a, c, hv, hc⟩ := h.form
  rw [u8s_len] at hv hc
  subst hv
  have H := Lib.hid h
  obtain ⟨n, hn⟩ : ∃ n, n = l.length := ⟨_, rfl⟩
  rw [← hn] at H hl hc ⊢
  have HN := Lib.hid hn
  clear h hn
  go_enter Try.func53, Try.ntmps53
  go_wp2_with fail
  go_loopw [0, 4] (fun b s wr => ∃ (k : Nat) (bp : Option Addr) (bc : Nat) (bs : List UInt8) (acc : List UInt64), b = .slice bp k bc ∧ k ≤ n ∧ k ≤ bc ∧ Hid (k = bs.length ∧ unrF acc bs = unrAns l ∧ Holds w (.slice bp k bc) (u8s bs) ∧ wr.ownsRow w.heap.size 61 1 s acc.length (u64s acc) ∧ Below w.heap.size w wr ∧ acc.length ≤ 100000)) (fun b _ _ => match b with | .slice _ k _ => k | _ => 0)
  case atStart => exact ⟨n, a, c, l, [], rfl, Nat.le_refl _, hc, HN.out, rfl, H.out, World.ownsRow_nil _ _ _ _, Below.refl _ _, by simp⟩
  case round =>
    obtain ⟨k, bp, bc, bs, acc, rfl, hk, hkc, HK⟩ := hrel
    obtain ⟨sa, sc, hsv, hsc⟩ := ownsRow_form HK.out.2.2.2.1
    obtain ⟨L, hL⟩ : ∃ L, acc.length = L := ⟨_, rfl⟩
    rw [hL] at hsv
    subst hsv
    have HLE := Lib.hid hL
    have hL2 : L ≤ 100000 := by rw [← hL]; exact HK.out.2.2.2.2.2
    clear hL hsc
    rcases Nat.eq_zero_or_pos k with h0 | hpos
    · subst h0
      have e : bs = [] := List.eq_nil_of_length_eq_zero HK.out.1.symm
      subst e
      have E2 := Lib.hid HK.out.2.1
      rw [unrF_nil] at E2
      go_wp2_with fail
      go_ret2
      rw [← E2.out]
      exact ⟨_, rfl, Lib.hid ⟨HK.out.2.2.2.1, HK.out.2.2.2.2.1⟩⟩
    · have t1 : decide ((k : Int) > 0) = true := decide_eq_true (by omega)
      have hne : bs ≠ [] := fun e => by have := HK.out.1; rw [e] at this; simp at this; omega
      have HB := Lib.hid HK.out.2.2.2.2.1
      have KG := refGet_any (HK.out.2.2.1.below HB.out) (by rw [← HK.out.1]; omega)
      have hgb := getN_bd bs
      rw [← HK.out.1] at hgb
      by_cases hz : (getN bs).2 = 0
      · have E2 := Lib.hid HK.out.2.1
        rw [unrF_bad1 hne hz] at E2
        rw [hz] at KG
        clear hgb hne hz
        generalize (getN bs).1 = u at KG
        go_wp2_with fail
        refine KG.mono ?_
        rintro e w' ⟨rfl, rfl⟩
        go_wp2_with fail
        go_ret2
        rw [← E2.out]
        exact ⟨_, rfl, Lib.hid ⟨World.ownsRow_nil _ _ _ _, HB.out⟩⟩
      · obtain ⟨bd, rfl⟩ := HK.out.2.2.1.ptr hpos
        have hz1 : (((getN bs).2 : Int) == 0) = false := by rw [beq_eq_false_iff_ne]; omega
        have hm1 : 1 ≤ (getN bs).2 := by omega
        have hm2 := hgb.1
        have hub := hgb.2
        have HM := Lib.hid (fun (n m u k : Nat) (h1 : (getN bs).1 = u) (h2 : (getN bs).2 = n) (h3 : n ≠ 0) (h4 : (getN (bs.drop n)).1 = k) (h5 : (getN (bs.drop n)).2 = m) (h6 : m ≠ 0) => unrF_more (acc := acc) hne h1 h2 h3 h4 h5 h6)
        have HM2 := Lib.hid (unrF_bad2 (acc := acc) hne hz)
        clear hgb hz hne
        obtain ⟨m1, hm⟩ : ∃ m, (getN bs).2 = m := ⟨_, rfl⟩
        obtain ⟨u, hu⟩ : ∃ m, (getN bs).1 = m := ⟨_, rfl⟩
        have HMU := Lib.hid (And.intro hm hu)
        rw [hm] at hz1 hm1 hm2 KG HM2
        rw [hu] at hub KG
        clear hm hu
        by_cases hcm : bc = m1
        · subst hcm
          have HD := Lib.hid (drop_end HK.out.2.2.1 (show k ≤ bc by omega))
          have hm0 : (getN (bs.drop bc)).2 = 0 := by
            rw [List.drop_eq_nil_of_le (by rw [← HK.out.1]; omega)]; rfl
          have KG2 := refGet_any (HD.out.below HB.out) (by rw [List.length_drop, ← HK.out.1]; omega)
          have hkm : k - bc = 0 := by omega
          generalize (getN (bs.drop bc)).1 = q at KG2
          have E2 := Lib.hid HK.out.2.1
          rw [HM2.out hm0] at E2
          rw [hm0] at KG2
          have t3 : (((0 : Nat) : Int) == 0) = true := rfl
          go_wp2_with fail
          refine KG.mono ?_
          rintro e w' ⟨rfl, rfl⟩
          go_wp2_with fail
          refine KG2.mono ?_
          rintro e w' ⟨rfl, rfl⟩
          go_wp2_with fail
          go_ret2
          rw [← E2.out]
          exact ⟨_, rfl, Lib.hid ⟨World.ownsRow_nil _ _ _ _, HB.out⟩⟩
        · have HD := Lib.hid (HK.out.2.2.1.drop m1 (by omega))
          have hd8 : (u8s bs).drop m1 = u8s (bs.drop m1) := by simp [u8s, List.map_drop]
          rw [hd8] at HD
          have KG2 := refGet_any (HD.out.below HB.out) (by rw [List.length_drop, ← HK.out.1]; omega)
          have hgb2 := getN_bd (bs.drop m1)
          rw [List.length_drop, ← HK.out.1] at hgb2
          clear hd8
          by_cases hm0 : (getN (bs.drop m1)).2 = 0
          · generalize (getN (bs.drop m1)).1 = q at KG2
            have E2 := Lib.hid HK.out.2.1
            rw [HM2.out hm0] at E2
            rw [hm0] at KG2
            have t3 : (((0 : Nat) : Int) == 0) = true := rfl
            go_wp2_with fail
            refine KG.mono ?_
            rintro e w' ⟨rfl, rfl⟩
            go_wp2_with fail
            refine KG2.mono ?_
            rintro e w' ⟨rfl, rfl⟩
            go_wp2_with fail
            go_ret2
            rw [← E2.out]
            exact ⟨_, rfl, Lib.hid ⟨World.ownsRow_nil _ _ _ _, HB.out⟩⟩
          · have HMQ := Lib.hid (HM.out m1 (getN (bs.drop m1)).2 u (getN (bs.drop m1)).1 HMU.out.2 HMU.out.1 (by omega) rfl rfl hm0)
            have hl2 := hgb2.1
            have hqb := hgb2.2
            clear hgb2
            generalize (getN (bs.drop m1)).2 = m2 at *
            generalize (getN (bs.drop m1)).1 = q at *
            have t3 : ((m2 : Int) == 0) = false := by rw [beq_eq_false_iff_ne]; omega
            by_cases hq0 : q = 0
            · have t4 : ((q : Int) == 0) = true := by rw [hq0]; rfl
              have E2 := Lib.hid HK.out.2.1
              rw [HMQ.out, if_pos (.inr (.inl hq0))] at E2
              go_wp2_with fail
              refine KG.mono ?_
              rintro e w' ⟨rfl, rfl⟩
              go_wp2_with fail
              refine KG2.mono ?_
              rintro e w' ⟨rfl, rfl⟩
              go_wp2_with fail
              go_ret2
              rw [← E2.out]
              exact ⟨_, rfl, Lib.hid ⟨World.ownsRow_nil _ _ _ _, HB.out⟩⟩
            · have t4 : ((q : Int) == 0) = false := by rw [beq_eq_false_iff_ne]; omega
              by_cases hq1 : 100000 - L < q
              · have t5 : decide ((q : Int) > 100000 - (L : Int)) = true := decide_eq_true (by omega)
                have E2 := Lib.hid HK.out.2.1
                rw [HMQ.out, if_pos (.inr (.inr (by rw [HLE.out]; exact hq1)))] at E2
                go_wp2_with fail
                refine KG.mono ?_
                rintro e w' ⟨rfl, rfl⟩
                go_wp2_with fail
                refine KG2.mono ?_
                rintro e w' ⟨rfl, rfl⟩
                go_wp2_with fail
                go_ret2
                rw [← E2.out]
                exact ⟨_, rfl, Lib.hid ⟨World.ownsRow_nil _ _ _ _, HB.out⟩⟩
              · have t5 : decide ((q : Int) > 100000 - (L : Int)) = false := decide_eq_false (by omega)
                by_cases hz : L = 0
                · have hnl : ¬ acc.getLast? = some (UInt64.ofNat u) := by rw [List.eq_nil_of_length_eq_zero (HLE.out.trans hz)]; intro h; cases h
                  subst hz
                  have hn : ¬ (acc.getLast? = some (UInt64.ofNat u) ∨ q = 0 ∨ 100000 - acc.length < q) := by rw [HLE.out]; rintro (h | h | h) <;> contradiction
                  have E2 := Lib.hid HK.out.2.1
                  rw [HMQ.out, if_neg hn] at E2
                  have hU : (UInt64.ofNat u).toNat = u := by rw [UInt64.toNat_ofNat']; exact Nat.mod_eq_of_lt hub
                  have HU := Lib.hid hU
                  clear hn hU
                  go_wp2_with fail
                  refine KG.mono ?_
                  rintro e w' ⟨rfl, rfl⟩
                  go_wp2_with fail
                  refine KG2.mono ?_
                  rintro e w' ⟨rfl, rfl⟩
                  go_wp2_with fail
                  go_loopw [9, 4] (fun i s X => ∃ j : Nat, i = .int .u64 (j : Int) ∧ j ≤ q ∧ Hid (X.ownsRow w.heap.size 61 1 s (acc ++ List.replicate j (UInt64.ofNat u)).length (u64s (acc ++ List.replicate j (UInt64.ofNat u))) ∧ Below w.heap.size w X)) (fun i _ _ => q - (intOf i).toNat)
                  case atStart => exact ⟨0, rfl, Nat.zero_le _, by rw [List.replicate_zero, List.append_nil]; exact HK.out.2.2.2.1, HB.out⟩
                  case round =>
                    obtain ⟨j, rfl, hj, HX⟩ := hrel
                    obtain ⟨xa, xc, hxv, _⟩ := ownsRow_form HX.out.1
                    rw [List.length_append, List.length_replicate, HLE.out] at hxv
                    subst hxv
                    by_cases hjq : j < q
                    · obtain ⟨v', w2, HRUN, HR2⟩ := u64_step (y := u) HX.out.1 HX.out.2 (by rw [List.length_append, List.length_replicate, HLE.out]; omega) (UInt64.ofNat u) HU.out
                      have HR3 : Hid (w2.ownsRow w.heap.size 61 1 v' (acc ++ List.replicate (j + 1) (UInt64.ofNat u)).length (u64s (acc ++ List.replicate (j + 1) (UInt64.ofNat u))) ∧ Below w.heap.size w w2) := Lib.hid (by
                        have := HR2.out
                        rw [List.append_assoc, ← List.replicate_succ'] at this
                        exact this)
                      go_wp2_with (at_builtin; refine wpList_append_run rfl _ _ 63 rfl rfl rfl (HRUN.out _) ?_)
                      go_roundw
                      case rel => exact ⟨j + 1, by go_num, by omega, HR3.out⟩
                      case measure => simp [intOf]; omega
                    · obtain rfl : j = q := by omega
                      by_cases hcm2 : bc = m1 + m2
                      · have HD2 := Lib.hid (drop_end HK.out.2.2.1 (show k ≤ m1 + m2 by omega))
                        go_wp2_with fail
                        refine ⟨⟨k - (m1 + m2), _, _, bs.drop (m1 + m2), acc ++ List.replicate j (UInt64.ofNat u), rfl, by omega, by omega, by rw [List.length_drop, ← HK.out.1], E2.out, ?_, ?_, HX.out.2, by rw [List.length_append, List.length_replicate, HLE.out]; omega⟩, ?_⟩
                        · rw [show k - (m1 + m2) = 0 by omega, Nat.sub_self]; exact HD2.out
                        · exact HX.out.1
                        · show k - (m1 + m2) < k; omega
                      · have HD2 := Lib.hid (HK.out.2.2.1.drop (m1 + m2) (by omega))
                        go_wp2_with fail
                        refine ⟨⟨k - (m1 + m2), _, _, bs.drop (m1 + m2), acc ++ List.replicate j (UInt64.ofNat u), rfl, by omega, by omega, by rw [List.length_drop, ← HK.out.1], E2.out, ?_, ?_, HX.out.2, by rw [List.length_append, List.length_replicate, HLE.out]; omega⟩, ?_⟩
                        · rw [u8s, List.map_drop]; exact HD2.out
                        · exact HX.out.1
                        · show k - (m1 + m2) < k; omega
                · have t6 : decide ((L : Int) > 0) = true := decide_eq_true (by omega)
                  have hq2 : L - 1 < acc.length := by have := HLE.out; omega
                  have hHo : Holds wr (.slice sa L sc) (u64s acc) := Holds.of_row (by rw [u64s_len, HLE.out]; have := HK.out.2.2.2.1; rw [HLE.out] at this; exact this)
                  obtain ⟨ad, rfl⟩ := hHo.ptr (by omega)
                  have hlast : wr.cell? (ad.add (L - 1)) = some (.int .u64 (acc[L - 1].toNat : Int)) := hHo.cell (by rw [u64s, List.getElem?_map, List.getElem?_eq_getElem hq2]; rfl)
                  have hgl : acc.getLast? = some (UInt64.ofNat u) ↔ acc[L - 1].toNat = u := by
                    rw [List.getLast?_eq_getElem?, HLE.out, List.getElem?_eq_getElem hq2, Option.some.injEq]
                    constructor
                    · intro h; rw [h, UInt64.toNat_ofNat']; exact Nat.mod_eq_of_lt hub
                    · intro h; rw [← h]; exact (UInt64.ofNat_toNat).symm
                  generalize acc[L - 1].toNat = z at hlast hgl
                  have HGL := Lib.hid hgl
                  clear hgl hHo
                  by_cases hzu : z = u
                  · have t7 : ((z : Int) == (u : Int)) = true := by rw [hzu]; exact beq_self_eq_true _
                    have HC : Hid (acc.getLast? = some (UInt64.ofNat u)) := Lib.hid (HGL.out.2 hzu)
                    clear hzu
                    have E2 := Lib.hid HK.out.2.1
                    rw [HMQ.out, if_pos (.inl HC.out)] at E2
                    go_wp2_with fail
                    refine KG.mono ?_
                    rintro e w' ⟨rfl, rfl⟩
                    go_wp2_with fail
                    refine KG2.mono ?_
                    rintro e w' ⟨rfl, rfl⟩
                    go_wp2_with fail
                    go_ret2
                    rw [← E2.out]
                    exact ⟨_, rfl, Lib.hid ⟨World.ownsRow_nil _ _ _ _, HB.out⟩⟩
                  · have t7 : ((z : Int) == (u : Int)) = false := by rw [beq_eq_false_iff_ne]; omega
                    have hnl : ¬ acc.getLast? = some (UInt64.ofNat u) := fun h => hzu (HGL.out.1 h)
                    clear hzu
                    have hn : ¬ (acc.getLast? = some (UInt64.ofNat u) ∨ q = 0 ∨ 100000 - acc.length < q) := by rw [HLE.out]; rintro (h | h | h) <;> contradiction
                    have E2 := Lib.hid HK.out.2.1
                    rw [HMQ.out, if_neg hn] at E2
                    have hU : (UInt64.ofNat u).toNat = u := by rw [UInt64.toNat_ofNat']; exact Nat.mod_eq_of_lt hub
                    have HU := Lib.hid hU
                    clear hn hU
                    go_wp2_with fail
                    refine KG.mono ?_
                    rintro e w' ⟨rfl, rfl⟩
                    go_wp2_with fail
                    refine KG2.mono ?_
                    rintro e w' ⟨rfl, rfl⟩
                    go_wp2_with fail
                    go_loopw [9, 4] (fun i s X => ∃ j : Nat, i = .int .u64 (j : Int) ∧ j ≤ q ∧ Hid (X.ownsRow w.heap.size 61 1 s (acc ++ List.replicate j (UInt64.ofNat u)).length (u64s (acc ++ List.replicate j (UInt64.ofNat u))) ∧ Below w.heap.size w X)) (fun i _ _ => q - (intOf i).toNat)
                    case atStart => exact ⟨0, rfl, Nat.zero_le _, by rw [List.replicate_zero, List.append_nil]; exact HK.out.2.2.2.1, HB.out⟩
                    case round =>
                      obtain ⟨j, rfl, hj, HX⟩ := hrel
                      obtain ⟨xa, xc, hxv, _⟩ := ownsRow_form HX.out.1
                      rw [List.length_append, List.length_replicate, HLE.out] at hxv
                      subst hxv
                      by_cases hjq : j < q
                      · obtain ⟨v', w2, HRUN, HR2⟩ := u64_step (y := u) HX.out.1 HX.out.2 (by rw [List.length_append, List.length_replicate, HLE.out]; omega) (UInt64.ofNat u) HU.out
                        have HR3 : Hid (w2.ownsRow w.heap.size 61 1 v' (acc ++ List.replicate (j + 1) (UInt64.ofNat u)).length (u64s (acc ++ List.replicate (j + 1) (UInt64.ofNat u))) ∧ Below w.heap.size w w2) := Lib.hid (by
                          have := HR2.out
                          rw [List.append_assoc, ← List.replicate_succ'] at this
                          exact this)
                        go_wp2_with (at_builtin; refine wpList_append_run rfl _ _ 63 rfl rfl rfl (HRUN.out _) ?_)
                        go_roundw
                        case rel => exact ⟨j + 1, by go_num, by omega, HR3.out⟩
                        case measure => simp [intOf]; omega
                      · obtain rfl : j = q := by omega
                        by_cases hcm2 : bc = m1 + m2
                        · have HD2 := Lib.hid (drop_end HK.out.2.2.1 (show k ≤ m1 + m2 by omega))
                          go_wp2_with fail
                          refine ⟨⟨k - (m1 + m2), _, _, bs.drop (m1 + m2), acc ++ List.replicate j (UInt64.ofNat u), rfl, by omega, by omega, by rw [List.length_drop, ← HK.out.1], E2.out, ?_, ?_, HX.out.2, by rw [List.length_append, List.length_replicate, HLE.out]; omega⟩, ?_⟩
                          · rw [show k - (m1 + m2) = 0 by omega, Nat.sub_self]; exact HD2.out
                          · exact HX.out.1
                          · show k - (m1 + m2) < k; omega
                        · have HD2 := Lib.hid (HK.out.2.2.1.drop (m1 + m2) (by omega))
                          go_wp2_with fail
                          refine ⟨⟨k - (m1 + m2), _, _, bs.drop (m1 + m2), acc ++ List.replicate j (UInt64.ofNat u), rfl, by omega, by omega, by rw [List.length_drop, ← HK.out.1], E2.out, ?_, ?_, HX.out.2, by rw [List.length_append, List.length_replicate, HLE.out]; omega⟩, ?_⟩
                          · rw [u8s, List.map_drop]; exact HD2.out
                          · exact HX.out.1
                          · show k - (m1 + m2) < k; omega
end Go.Proofs.Ytknghmcdnlkfcaa
