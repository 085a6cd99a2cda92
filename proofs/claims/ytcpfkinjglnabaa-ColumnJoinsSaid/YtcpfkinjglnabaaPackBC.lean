/- The texts ColP Words Ints ColQ, one behind the other; each one's own comment says what it holds. -/
import Derived.Test.YtcpfkinjglnabaaPackBB
import Derived.Test.YtcpfkinjglnabaaPackAX
import Derived.Test.YtcpfkinjglnabaaPackAB
/- A good vector's bytes lead back to it. Conditions: none. -/
set_option maxRecDepth 100000
namespace Go.Proofs.Ytcpfkinjglnabaa
open Go.RowKit Go.Maps Go.Sort

theorem pack_val {wd : Nat} (hw : wd ≤ 64) {l : List UInt64} (h : ∀ u ∈ l, u.toNat < 2 ^ wd) : packAns (wd : Int) l = (bytesN ((wd * l.length + 7) / 8) (bigN wd (nats l)), 0) := by
  unfold packAns
  rw [if_neg (by omega), if_pos (by simpa using h)]
  simp
theorem unpack_of_pack {wd : Nat} (hw : wd ≤ 64) {l : List UInt64} (h : ∀ u ∈ l, u.toNat < 2 ^ wd) (hl : l.length ≤ 100000) : unpackAns (wd : Int) (l.length : Int) (packAns (wd : Int) l).1 = (l, 0) := by
  obtain ⟨h1, h2⟩ := unpack_pack wd l h
  rw [pack_val hw h]
  unfold unpackAns
  rw [if_neg (by omega)]
  simp only [Int.toNat_natCast]
  rw [if_pos ⟨bytesN_len _ _, h1⟩, h2]
theorem marks_fit (l : List Bool) : ∀ u ∈ l.map markU, u.toNat < 2 ^ 1 := fun u hu => by
  obtain ⟨b, _, rfl⟩ := List.mem_map.1 hu
  cases b <;> decide
theorem unm_mark (l : List Bool) : (l.map markU).map unmU = l := by
  rw [List.map_map]
  conv => rhs; rw [← List.map_id l]
  apply List.map_congr_left
  intro b _
  cases b <;> decide
theorem sgn_id {l : List Int} (h : ∀ x ∈ l, 0 ≤ x ∧ x < 512) : (idsU l).map sgnU = l := by
  unfold idsU
  rw [List.map_map]
  conv => rhs; rw [← List.map_id l]
  apply List.map_congr_left
  intro x hx
  obtain ⟨h0, h1⟩ := h x hx
  simp only [Function.comp_apply, sgnU, idU_small h0 h1, id]
  rw [IntKind.wrap_i64]; omega
theorem mem_or : ∀ (l : List UInt64) (a : Nat), a < 18446744073709551616 → (a ≤ l.foldl (fun a u => a ||| u.toNat) a) ∧ ∀ u ∈ l, u.toNat ≤ l.foldl (fun a u => a ||| u.toNat) a
  | [], a, _ => ⟨Nat.le_refl _, fun u hu => by simp at hu⟩
  | v :: r, a, ha => by
    obtain ⟨h1, h2⟩ := mem_or r (a ||| v.toNat) (or_lt ha v.toNat_lt)
    refine ⟨Nat.le_trans Nat.left_le_or h1, fun u hu => ?_⟩
    rcases List.mem_cons.1 hu with rfl | hu
    · exact Nat.le_trans Nat.right_le_or h1
    · exact h2 u hu
theorem ids_fit (l : List UInt64) : ∀ u ∈ l, u.toNat < 2 ^ wdU l := fun u hu => by
  have h1 := (mem_or l 0 (by decide)).2 u hu
  have h2 := bitLen_lt (orL_lt l)
  unfold wdU
  exact Nat.lt_of_le_of_lt h1 h2
theorem mark_bytes_len {l : List Bool} : (packAns 1 (l.map markU)).1.length = (l.length + 7) / 8 := by
  have := pack_val (wd := 1) (by omega) (marks_fit l)
  rw [show ((1 : Nat) : Int) = 1 from rfl] at this
  rw [this, bytesN_len, List.length_map, Nat.one_mul]
theorem decA {l : List Int} (h : ∀ x ∈ l, 0 ≤ x ∧ x < 512) (hl : l.length ≤ 1000) : decI 0 l.length (encA (idsU l)) = l := by
  have hw := wdU_small h
  show ((unpackAns ((UInt8.ofNat (wdU (idsU l))).toNat : Int) (l.length : Int) (packAns (wdU (idsU l) : Int) (idsU l)).1).1.map sgnU) = l
  have e : (UInt8.ofNat (wdU (idsU l))).toNat = wdU (idsU l) := by rw [UInt8.toNat_ofNat']; omega
  have e2 : (idsU l).length = l.length := by simp [idsU]
  rw [e, ← e2, unpack_of_pack (by omega) (ids_fit _) (by omega)]
  exact sgn_id h
theorem decB {l : List Int} (h : ∀ x ∈ l, 0 ≤ x ∧ x < 512) (hl : l.length ≤ 1000) (N : Nat) : decI 1 N (encB (idsU l)) = l := by
  show (unrAns (runsB (runsOf (idsU l)))).1.map sgnU = l
  rw [unruns_runs _ (by simp [idsU]; omega)]
  exact sgn_id h
theorem decC {l : List Int} (h : ∀ x ∈ l, 0 ≤ x ∧ x < 512) (N : Nat) : decI 2 N (deltaL 0 l) = l := by
  show (undAns (deltaL 0 l)).1 = l
  rw [undeltas_deltas l (fun n hn => by have := h n hn; omega)]
/-- what stands behind the encoding's number -/
theorem short_cases (l : List Int) : (shortL l = 0 :: encA (idsU l)) ∨ (shortL l = 1 :: encB (idsU l)) ∨ (shortL l = 2 :: deltaL 0 l) := by
  unfold shortL best2 bA bB bC
  by_cases h1 : (1 :: encB (idsU l)).length < (0 :: encA (idsU l)).length
  · rw [if_pos h1]
    by_cases h2 : (2 :: deltaL 0 l).length < (1 :: encB (idsU l)).length
    · rw [if_pos h2]; exact .inr (.inr rfl)
    · rw [if_neg h2]; exact .inr (.inl rfl)
  · rw [if_neg h1]
    by_cases h2 : (2 :: deltaL 0 l).length < (0 :: encA (idsU l)).length
    · rw [if_pos h2]; exact .inr (.inr rfl)
    · rw [if_neg h2]; exact .inl rfl
/-- the parts of a good vector's bytes -/
theorem bytes_parts {c : CV} (hg : goodC c = true) {x : UInt8} {r : List UInt8} (hs : shortL c.il = x :: r) :
    (getN (bytesC c)).1 = c.il.length ∧ (getN (bytesC c)).2 = (dig c.il.length).length ∧ (getN (bytesC c)).2 ≠ 0 ∧ c.il.length ≤ 1000 ∧ (getN (bytesC c)).2 + (c.il.length + 7) / 8 < (bytesC c).length ∧
    (bytesC c)[(getN (bytesC c)).2 + (c.il.length + 7) / 8]? = some x ∧ (bytesC c).drop ((getN (bytesC c)).2 + (c.il.length + 7) / 8 + 1) = r ∧ ((bytesC c).take ((getN (bytesC c)).2 + (c.il.length + 7) / 8)).drop (getN (bytesC c)).2 = (packAns 1 (c.nl.map markU)).1 ∧
    (bytesC c).drop ((getN (bytesC c)).2 + (c.il.length + 7) / 8) = x :: r := by
  obtain ⟨hn, hl, _⟩ := good_iff.1 hg
  have hb : bytesC c = dig c.il.length ++ ((packAns 1 (c.nl.map markU)).1 ++ (x :: r)) := by rw [bytesC, hs, List.append_assoc]
  have hG : getN (bytesC c) = (c.il.length, (dig c.il.length).length) := by rw [hb]; exact get_dig0 _ (by omega)
  have hm : (packAns 1 (c.nl.map markU)).1.length = (c.il.length + 7) / 8 := by rw [mark_bytes_len, hn]
  have hpos : (dig c.il.length).length ≠ 0 := by
    have : dig c.il.length ≠ [] := by unfold dig; split <;> simp
    exact fun e => this (List.eq_nil_of_length_eq_zero e)
  rw [hG]
  generalize dig c.il.length = D at *
  generalize (packAns 1 (c.nl.map markU)).1 = M at *
  have hb2 : bytesC c = (D ++ M) ++ (x :: r) := by rw [hb, List.append_assoc]
  have hDM : (D ++ M).length = D.length + (c.il.length + 7) / 8 := by rw [List.length_append, hm]
  refine ⟨rfl, rfl, hpos, hl, ?_, ?_, ?_, ?_, ?_⟩
  · show D.length + _ < _
    rw [hb2, List.length_append, hDM, List.length_cons]; omega
  · show (bytesC c)[D.length + _]? = _
    rw [hb2, ← hDM, List.getElem?_append_right (Nat.le_refl _), Nat.sub_self]; rfl
  · show (bytesC c).drop (D.length + _ + 1) = _
    rw [hb2, ← hDM, List.drop_append]
    rw [List.drop_eq_nil_of_le (by omega), List.nil_append, show (D ++ M).length + 1 - (D ++ M).length = 1 by omega]
    rfl
  · show ((bytesC c).take (D.length + _)).drop D.length = _
    rw [hb2, ← hDM, List.take_left, List.drop_left]
  · show (bytesC c).drop (D.length + _) = _
    rw [hb2, ← hDM, List.drop_left]
theorem read_bytes {c : CV} (hg : goodC c = true) : readC (bytesC c) = c := by
  obtain ⟨hn, hl, _⟩ := good_iff.1 hg
  have hsm := good_small hg
  have key : ∀ (x : UInt8) (r : List UInt8), shortL c.il = x :: r → x.toNat < 3 → decI x.toNat c.il.length r = c.il → readC (bytesC c) = c := fun x r hs hx hd => by
    obtain ⟨p1, p2, p3, p4, p5, p6, p7, p8, _⟩ := bytes_parts hg hs
    unfold readC
    rw [p1]
    have hx2 : (bytesC c).getD ((getN (bytesC c)).2 + (c.il.length + 7) / 8) 0 = x := by rw [List.getD_eq_getElem?_getD, p6]; rfl
    rw [if_neg (by omega), if_neg (by omega), hx2, if_neg (by omega), p7, p8, hd]
    have hu : unpackAns 1 (c.il.length : Int) (packAns 1 (c.nl.map markU)).1 = (c.nl.map markU, 0) := by
      have := unpack_of_pack (wd := 1) (by omega) (marks_fit c.nl) (by rw [List.length_map]; omega)
      rw [List.length_map, hn] at this
      exact this
    rw [hu]
    simp only [unm_mark]
  rcases short_cases c.il with h | h | h
  · exact key _ _ h (by decide) (decA hsm hl)
  · exact key _ _ h (by decide) (decB hsm hl _)
  · exact key _ _ h (by decide) (decC hsm _)
theorem load_bytes {c : CV} (hg : goodC c = true) : loadV (bytesC c) = c ∧ loadE (bytesC c) = 0 := by
  have hr := read_bytes hg
  have hok : okL (bytesC c) = true := by unfold okL; rw [hr, hg]; simp
  exact ⟨by rw [loadV, hok, hr]; rfl, by rw [loadE, hok]; rfl⟩
end Go.Proofs.Ytcpfkinjglnabaa
/- Contract of talusref01.Words: are two lists of numbers alike. Conditions: small lists. -/
set_option maxRecDepth 100000
namespace Go.Proofs.Ytcpfkinjglnabaa
open Go.RowKit Go.Maps Go.Sort

theorem below_drew {w wr : World} {B : Nat} (h : Below B w wr) (n : Nat) : Below B w (wr.drewN n) := ⟨h.os, h.tape, h.output, h.size, h.block⟩

end Go.Proofs.Ytcpfkinjglnabaa
/- Contract of talusref01.Ints: are two lists of ints alike. Conditions: small lists. -/
set_option maxRecDepth 100000
namespace Go.Proofs.Ytcpfkinjglnabaa
open Go.RowKit Go.Maps Go.Sort

set_option maxHeartbeats 800000 in
theorem Ints_any {w : World} {a1 a2 : Option Addr} {n1 n2 k1 k2 : Nat} {l1 l2 : List Int} (h1 : Holds w (.slice a1 n1 k1) (i64s l1)) (h2 : Holds w (.slice a2 n2 k2) (i64s l2)) (e1 : n1 = l1.length) (e2 : n2 = l2.length) (hl : l1.length ≤ 1000000) :
    Calls Try.prog 25 #[.slice a1 n1 k1, .slice a2 n2 k2] w fun r w' => r = .returned (.bool (decide (l1 = l2))) ∧ Below w.heap.size w w' := by
  have hl1 : n1 ≤ 1000000 := by omega
  have H1 := Lib.hid h1
  have H2 := Lib.hid h2
  have E1 := Lib.hid e1
  have E2 := Lib.hid e2
  clear h1 h2 e1 e2 hl
  go_enter Try.func25, Try.ntmps25
  by_cases hne : n1 = n2
  · subst hne
    go_wp2_with fail
    go_loopw [5, 13] (fun _ i wr => ∃ k : Nat, i = .int .i64 k ∧ k ≤ n1 ∧ Hid (l1.take k = l2.take k) ∧ Hid (Below w.heap.size w wr)) (fun _ i _ => n1 - (intOf i).toNat)
    case atStart => exact ⟨0, rfl, by omega, rfl, Below.refl _ _⟩
    case round =>
      obtain ⟨k, rfl, hk, HE, HB⟩ := hrel
      by_cases hlt : k < n1
      · have hk1 : k < l1.length := by rw [← E1.out]; exact hlt
        have hk2 : k < l2.length := by rw [← E2.out]; exact hlt
        have g1 := H1.out.below HB.out
        have g2 := H2.out.below HB.out
        obtain ⟨d1, rfl⟩ := g1.ptr (by omega)
        obtain ⟨d2, rfl⟩ := g2.ptr (by omega)
        have c1 : wr.cell? (d1.add k) = some (.int .i64 l1[k]) := g1.cell (by simp [i64s, hk1])
        have c2 : wr.cell? (d2.add k) = some (.int .i64 l2[k]) := g2.cell (by simp [i64s, hk2])
        have b1 : (k : Int) < (n1 : Int) := by omega
        have b0 : (0 : Int) ≤ (k : Int) := by omega
        have HS : Hid (l1[k] = l2[k] → l1.take (k + 1) = l2.take (k + 1)) := Lib.hid fun h => by
          rw [List.take_succ_eq_append_getElem hk1, List.take_succ_eq_append_getElem hk2, HE.out, h]
        have HD : Hid (¬ l1[k] = l2[k] → decide (l1 = l2) = false) := Lib.hid fun h => by
          refine decide_eq_false fun e => h ?_
          subst e
          rfl
        clear g1 g2
        generalize l1[k] = x at *
        generalize l2[k] = y at *
        by_cases hxy : x = y
        · have hh := Lib.hid (HS.out hxy)
          have t1 : (x != y) = false := by rw [hxy]; simp
          clear hxy HS HD
          go_wp2_with fail
          go_quiet (fail)
          go_wp2_with fail
          go_roundw
          case rel => exact ⟨k + 1, by go_num, by omega, hh, below_drew HB.out _⟩
          case measure => simp [intOf]; omega
        · have hh := Lib.hid (HD.out hxy)
          have t1 : (x != y) = true := by rw [bne_iff_ne]; omega
          clear hxy HS HD
          go_wp2_with fail
          go_quiet (fail)
          go_wp2_with fail
          go_ret
          rw [hh.out]
          exact ⟨rfl, below_drew HB.out _⟩
      · have hh : Hid (decide (l1 = l2) = true) := Lib.hid (decide_eq_true (by
          have e := HE.out
          rwa [List.take_of_length_le (by rw [← E1.out]; omega), List.take_of_length_le (by rw [← E2.out]; omega)] at e))
        go_wp2_with fail
        go_ret
        rw [hh.out]
        exact ⟨rfl, HB.out⟩
  · have hh : Hid (decide (l1 = l2) = false) := Lib.hid (decide_eq_false fun e => hne (by rw [E1.out, E2.out, e]))
    have t1 : ((n1 : Int) != (n2 : Int)) = true := by rw [bne_iff_ne]; omega
    go_wp2_with fail
    go_ret
    rw [hh.out]
    exact ⟨rfl, Below.refl _ _⟩
end Go.Proofs.Ytcpfkinjglnabaa
/- The example of the layer; plain and same. Conditions: none. -/
set_option maxRecDepth 100000
namespace Go.Proofs.Ytcpfkinjglnabaa
open Go.RowKit Go.Maps Go.Sort

theorem plain_any (w : World) (a1 a2 : Option Addr) (n1 n2 k1 k2 : Nat) : Calls Try.prog 6 #[.agg #[.slice a1 n1 k1, .slice a2 n2 k2]] w fun e w' => e = .returned (.agg #[.slice a1 n1 k1, .slice a2 n2 k2]) ∧ Below w.heap.size w w' := by
  have hb0 : Below w.heap.size w ((w.alloc (.cells #[.slice a1 n1 k1, .slice a2 n2 k2] 27)).alloc (.cells #[.slice a1 n1 k1, .slice a2 n2 k2] 29)) := ((Below.refl _ _).alloc (Nat.le_refl _) _).alloc (by simp) _
  have HB := Lib.hid hb0
  clear hb0
  go_enter Try.func6, Try.ntmps6
  go_wp2_with fail
  refine bodyPost_ret (v := .agg #[.slice a1 n1 k1, .slice a2 n2 k2]) ?_ rfl ⟨rfl, HB.out⟩
  simp [results, Try.results6, go_sem]
set_option maxHeartbeats 1600000 in
theorem csame_any {w : World} {a1 a2 b1 b2 : Option Addr} {n1 n2 k1 k2 m1 m2 l1 l2 : Nat} {c : CV} (h1 : Holds w (.slice a1 n1 k1) (bls c.nl)) (h2 : Holds w (.slice a2 n2 k2) (i64s c.il)) (g1 : Holds w (.slice b1 m1 l1) (bls c.nl)) (g2 : Holds w (.slice b2 m2 l2) (i64s c.il)) (hl : c.il.length ≤ 1000000) (hl2 : c.nl.length ≤ 1000000) :
    Calls Try.prog 9 #[.agg #[.slice a1 n1 k1, .slice a2 n2 k2], .agg #[.slice b1 m1 l1, .slice b2 m2 l2]] w fun e w' => e = .returned (.bool true) ∧ Below w.heap.size w w' := by
  have e1 := h1.len.1
  have e2 := h2.len.1
  have e3 := g1.len.1
  have e4 := g2.len.1
  rw [bls_len] at e1 e3
  rw [i64s_len] at e2 e4
  obtain rfl : m1 = n1 := by omega
  obtain ⟨W, hW⟩ : ∃ W, (w.alloc (.cells #[.slice a1 m1 k1, .slice a2 n2 k2] 27)).alloc (.cells #[.slice b1 m1 l1, .slice b2 m2 l2] 29) = W := ⟨_, rfl⟩
  obtain ⟨_, q1, q2⟩ := two_boxes w (.cells #[.slice a1 m1 k1, .slice a2 n2 k2] 27) (.cells #[.slice b1 m1 l1, .slice b2 m2 l2] 29)
  have hb0 : Below w.heap.size w W := by rw [← hW]; exact ((Below.refl _ _).alloc (Nat.le_refl _) _).alloc (by simp) _
  have hs : W.heap.size = w.heap.size + 2 := by rw [← hW]; simp
  rw [hW] at q1 q2
  have KI := Ints_any (h2.below hb0) (g2.below hb0) e2.symm e4.symm hl
  rw [decide_eq_true (rfl : c.il = c.il)] at KI
  have t0 : ((m1 : Int) != (m1 : Int)) = false := by simp
  have t1 : (m1 != m1) = false := by simp
  have HQ := Lib.hid (fun (V : World) (hv : Below W.heap.size W V) => (⟨by rw [cell_of_row _ _ _ _ _ _ ((hv.block _ (by omega)).trans q1)]; rfl, by rw [cell_of_row _ _ _ _ _ _ ((hv.block _ (by omega)).trans q2)]; rfl⟩ : V.cell? ⟨w.heap.size, 0, none⟩ = some (.slice a1 m1 k1) ∧ V.cell? ⟨w.heap.size + 1, 0, none⟩ = some (.slice b1 m1 l1)))
  have c0 : W.cell? ⟨w.heap.size, 0, none⟩ = some (.slice a1 m1 k1) := (HQ.out W (Below.refl _ _)).1
  have c1 : W.cell? ⟨w.heap.size + 1, 0, none⟩ = some (.slice b1 m1 l1) := (HQ.out W (Below.refl _ _)).2
  have c2 : W.cell? ⟨w.heap.size, 1, none⟩ = some (.slice a2 n2 k2) := by rw [cell_of_row _ _ _ _ _ _ q1]; rfl
  have c3 : W.cell? ⟨w.heap.size + 1, 1, none⟩ = some (.slice b2 m2 l2) := by rw [cell_of_row _ _ _ _ _ _ q2]; rfl
  have H1 := Lib.hid (fun (V : World) (hv : Below w.heap.size w V) => h1.below hv)
  have H3 := Lib.hid (fun (V : World) (hv : Below w.heap.size w V) => g1.below hv)
  have E1 := Lib.hid e1
  have HB := Lib.hid hb0
  have HL := Lib.hid (show m1 ≤ 1000000 by omega)
  clear h1 h2 g1 g2 hl hl2 e1 e2 e3 e4 q1 q2 hb0 hs
  go_enter Try.func9, Try.ntmps9
  go_wp2_with fail
  clear hW
  refine KI.mono ?_
  rintro e w1 ⟨rfl, hb1⟩
  obtain ⟨d0, d1⟩ := HQ.out w1 hb1
  have HB1 := Lib.hid hb1
  clear KI hb1 c0 c1 c2 c3
  go_wp2_with fail
  go_loopw [24] (fun s wr => ∃ m : Nat, s = .int .i64 m ∧ m ≤ m1 ∧ Hid (Below W.heap.size W wr)) (fun s _ => m1 - (RowKit.intOf s).toNat)
  case atStart => exact ⟨0, rfl, Nat.zero_le _, HB1⟩
  case round =>
    obtain ⟨m, rfl, hm, HR⟩ := hrel
    by_cases hlt : m < m1
    · have hk : m < c.nl.length := by have := E1.out; omega
      have hbw : Below w.heap.size w wr := HB.out.trans (HR.out.mono HB.out.size)
      have G1 := H1.out wr hbw
      have G3 := H3.out wr hbw
      obtain ⟨p1, rfl⟩ := G1.ptr (by omega)
      obtain ⟨p2, rfl⟩ := G3.ptr (by omega)
      have x1 := G1.cell (bls_get hk)
      have x2 := G3.cell (bls_get hk)
      obtain ⟨f0, f1⟩ := HQ.out wr HR.out
      have b0 : (0 : Int) ≤ (m : Int) := Int.natCast_nonneg m
      have b1 : (m : Int) < (m1 : Int) := Int.ofNat_lt.2 hlt
      have hw64 : IntKind.i64.wrap ((m : Int) + 1) = (m : Int) + 1 := by have := HL.out; rw [IntKind.wrap_i64]; omega
      obtain ⟨b, hb⟩ : ∃ b, c.nl.getD m false = b := ⟨_, rfl⟩
      rw [hb] at x1 x2
      clear hk hbw G1 G3 hb d0 d1
      cases b
      all_goals (
        go_wp2_with fail
        go_quiet (fail)
        go_wp2_with fail
        go_roundw
        case rel => exact ⟨m + 1, by go_num, hlt, Lib.hid (below_dN HR.out _)⟩
        case measure => simp [RowKit.intOf]; omega)
    · have HF := Lib.hid (HB.out.trans (HR.out.mono HB.out.size))
      clear HR
      go_wp2_with fail
      go_ret
      exact ⟨rfl, HF.out⟩
def exC : CV := ⟨[false, false, false, false], [5, 5, 5, 5]⟩
theorem ex_good : goodC exC = true := by decide
theorem ex_ids : idsU [5, 5, 5, 5] = [5, 5, 5, 5] := by decide
theorem ex_encB : encB (idsU [5, 5, 5, 5]) = [5, 4] := by
  rw [ex_ids]
  have e : runsOf [5, 5, 5, 5] = [(5, 4)] := by decide
  unfold encB
  rw [e]
  unfold runsB
  simp only [List.flatMap_cons, List.flatMap_nil]
  rw [dig_lo (show (5 : UInt64).toNat < 128 by decide), dig_lo (show 4 < 128 by decide)]
  decide
theorem ex_delta5 : (deltaL 0 [5, 5, 5, 5]).length = 4 := by
  unfold deltaL deltaL deltaL deltaL deltaL
  have e1 : zigU (dlt 5 0) = 10 := by decide
  have e2 : zigU (dlt 5 5) = 0 := by decide
  rw [e1, e2, dig_lo (by decide), dig_lo (by decide)]
  decide
theorem ex_encA : (encA (idsU [5, 5, 5, 5])).length = 3 := by
  rw [ex_ids]
  have hw : wdU [5, 5, 5, 5] = 3 := by decide
  unfold encA
  rw [hw, List.length_cons, pack_val (wd := 3) (by omega) (by decide), bytesN_len]
  decide
theorem ex_short : shortL [5, 5, 5, 5] = [1, 5, 4] := by
  have a : (bA [5, 5, 5, 5]).length = 4 := by unfold bA; rw [List.length_cons, ex_encA]
  have b : bB [5, 5, 5, 5] = [1, 5, 4] := by unfold bB; rw [ex_encB]
  have c : (bC [5, 5, 5, 5]).length = 5 := by unfold bC; rw [List.length_cons, ex_delta5]
  unfold shortL best2
  rw [b, a, c]
  decide
theorem ex_bytes : bytesC exC = [4, 0, 1, 5, 4] := by
  have hm : (packAns 1 (exC.nl.map markU)).1 = [0] := by
    have := pack_val (wd := 1) (by omega) (marks_fit exC.nl)
    rw [show ((1 : Nat) : Int) = 1 from rfl] at this
    rw [this]
    decide
  unfold bytesC
  rw [hm, show exC.il = [5, 5, 5, 5] from rfl, ex_short, dig_lo (show [(5 : Int), 5, 5, 5].length < 128 by decide)]
  decide
end Go.Proofs.Ytcpfkinjglnabaa
