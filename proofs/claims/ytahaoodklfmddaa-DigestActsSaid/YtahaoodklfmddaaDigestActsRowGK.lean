/- The texts CodecGet GetDig DigRead, one behind the other; each one's own comment says what it holds. -/
import Derived.Test.YtahaoodklfmddaaDigestActsRowGJ
import Derived.Test.YtahaoodklfmddaaShelf
/- Contracts of codec.Get and talusref02.Get: the number that bytes begin with. Conditions: none. -/
set_option maxRecDepth 100000
namespace Go.Proofs.Ytahaoodklfmddaa
open Go.RowKit Go.Maps Go.Sort

/-- the number that bytes begin with, i digits being read -/
def getAt : List UInt8 → Nat → Nat → Nat × Nat
  | [], _, _ => (0, 0)
  | c :: r, i, u => if 10 ≤ i then (0, 0) else if i = 9 ∧ 1 < c.toNat then (0, 0) else
    if c.toNat < 128 then (if 0 < i ∧ c.toNat = 0 then (0, 0) else (u + c.toNat * 2 ^ (7 * i), i + 1)) else getAt r (i + 1) (u + (c.toNat - 128) * 2 ^ (7 * i))
def getN (l : List UInt8) : Nat × Nat := getAt l 0 0

theorem drop_at {l : List UInt8} {k : Nat} (h : k < l.length) : l.drop k = l[k] :: l.drop (k + 1) := by rw [List.drop_eq_getElem_cons h]

theorem get_nil (i u : Nat) : getAt [] i u = (0, 0) := rfl
theorem get_ten (l : List UInt8) (u : Nat) : getAt l 10 u = (0, 0) := by
  cases l with
  | nil => rfl
  | cons c r => rw [getAt, if_pos (by omega)]
theorem get_bad (c : UInt8) (r : List UInt8) (u : Nat) (h : 1 < c.toNat) : getAt (c :: r) 9 u = (0, 0) := by
  rw [getAt, if_neg (by omega), if_pos ⟨rfl, h⟩]
theorem get_zero (c : UInt8) (r : List UInt8) (i u : Nat) (hi : 0 < i) (hi2 : i < 10) (h : c.toNat = 0) : getAt (c :: r) i u = (0, 0) := by
  rw [getAt, if_neg (by omega), if_neg (by omega), if_pos (by omega), if_pos ⟨hi, h⟩]
theorem get_last (c : UInt8) (r : List UInt8) (i u : Nat) (hi2 : i < 10) (h0 : ¬ (0 < i ∧ c.toNat = 0)) (h9 : ¬ (i = 9 ∧ 1 < c.toNat)) (h : c.toNat < 128) : getAt (c :: r) i u = (u + c.toNat * 2 ^ (7 * i), i + 1) := by
  rw [getAt, if_neg (by omega), if_neg h9, if_pos h, if_neg h0]
theorem get_more (c : UInt8) (r : List UInt8) (i u : Nat) (hi2 : i < 10) (h : ¬ c.toNat < 128) : getAt (c :: r) i u = getAt r (i + 1) (u + (c.toNat - 128) * 2 ^ (7 * i)) := by
  by_cases h9 : i = 9
  · subst h9
    rw [get_bad _ _ _ (by omega), get_ten]
  · rw [getAt, if_neg (by omega), if_neg (by omega), if_neg h]

/-- the arithmetic of one digit -/
theorem get_arith (k d U : Nat) (hk : k < 10) (hd : d < 128) (hU : U < 2 ^ (7 * k)) (h : ¬ (k = 9 ∧ 2 ≤ d)) :
    IntKind.u64.wrap ((d : Int) * 2 ^ (7 * k)) = ((d * 2 ^ (7 * k) : Nat) : Int) ∧ (((d * 2 ^ (7 * k) : Nat) : Int) / 2 ^ (7 * k) != (d : Int)) = false ∧
    bits .or .u64 (U : Int) ((d * 2 ^ (7 * k) : Nat) : Int) = ((U + d * 2 ^ (7 * k) : Nat) : Int) ∧ U + d * 2 ^ (7 * k) < 2 ^ (7 * (k + 1)) := by
  have hp : 0 < 2 ^ (7 * k) := Nat.two_pow_pos _
  have hlt : d * 2 ^ (7 * k) < 18446744073709551616 := by
    by_cases h9 : k = 9
    · subst h9
      have : d ≤ 1 := by omega
      have := Nat.mul_le_mul_right (2 ^ (7 * 9)) this
      omega
    · have h1 : 2 ^ (7 * k) ≤ 2 ^ 56 := Nat.pow_le_pow_right (by omega) (by omega)
      have h2 := Nat.mul_le_mul (show d ≤ 127 by omega) h1
      omega
  have hlt2 : U < 18446744073709551616 := by
    have h1 : 2 ^ (7 * k) ≤ 2 ^ 63 := Nat.pow_le_pow_right (by omega) (by omega)
    omega
  have hor : U ||| d * 2 ^ (7 * k) = U + d * 2 ^ (7 * k) := by
    rw [Nat.or_comm, Nat.mul_comm, ← Nat.two_pow_add_eq_or_of_lt hU d, Nat.add_comm]
  have hc : ((d * 2 ^ (7 * k) : Nat) : Int) = (d : Int) * 2 ^ (7 * k) := by simp
  refine ⟨?_, ?_, ?_, ?_⟩
  · rw [← hc]; exact IntWalk.u64_in _ (by omega)
  · rw [hc, Int.mul_ediv_cancel _ (Int.ne_of_gt (Int.pow_pos (by omega)))]; simp
  · rw [or_u64 _ _ hlt2 hlt, hor]
  · rw [show 7 * (k + 1) = 7 * k + 7 by omega, Nat.pow_add]
    have : d * 2 ^ (7 * k) ≤ 127 * 2 ^ (7 * k) := Nat.mul_le_mul_right _ (by omega)
    omega
theorem get_over (k d : Nat) (hk : k = 9) (hd : d < 128) (h : 2 ≤ d) : (IntKind.u64.wrap ((d : Int) * 2 ^ (7 * k)) / 2 ^ (7 * k) != (d : Int)) = true := by
  subst hk
  rw [bne_iff_ne, IntKind.wrap_u64]
  omega

set_option maxHeartbeats 3200000 in
theorem Get_any {w : World} {v : Value} {l : List UInt8} (h : Holds w v (u8s l)) (hx : l.length ≤ 17592186044000) :
    Calls Try.prog 56 #[v] w fun e w' => e = .returned (.tuple #[.int .u64 ((getN l).1 : Int), .int .i64 ((getN l).2 : Int)]) ∧ w = w' := by
  obtain ⟨a, c, hv, hc⟩ := h.form
  rw [u8s_len] at hv hc
  subst hv
  have H := Lib.hid h
  generalize hn : l.length = n at *
  have HN := Lib.hid hn
  clear h hn
  go_enter Try.func56, Try.ntmps56
  go_wp2_with fail
  all_goals
    go_loop [4, 15] (fun u i => ∃ (k U : Nat), k ≤ 10 ∧ k ≤ n ∧ i = .int .i64 k ∧ u = .int .u64 U ∧ Hid (U < 2 ^ (7 * k) ∧ getN l = getAt (l.drop k) k U)) (fun _ i => 10 - (intOf i).toNat)
    case atStart => exact ⟨0, 0, by omega, by omega, rfl, rfl, by simp, rfl⟩
    case round =>
      obtain ⟨k, U, hk, hkn, rfl, rfl, HR⟩ := hrel
      by_cases hlt : k < 10 ∧ k < n
      · obtain ⟨h10, hn⟩ := hlt
        have hkl : k < l.length := by rw [HN.out]; exact hn
        obtain ⟨ad, rfl⟩ := H.out.ptr (by omega)
        have hc : w.cell? (ad.add k) = some (.int .u8 (l[k].toNat : Int)) := H.out.cell (by simp [u8s, hkl])
        have hx := l[k].toNat_lt
        have hd := and127 l[k].toNat hx
        have hd2 : l[k].toNat % 128 < 128 := by omega
        have HG := Lib.hid HR.out.2
        rw [drop_at hkl] at HG
        by_cases hbad : k = 9 ∧ 2 ≤ l[k].toNat % 128
        · obtain ⟨h9, hb2⟩ := hbad
          have HE : Hid (getN l = (0, 0)) := Lib.hid (by rw [HG.out]; subst h9; exact get_bad _ _ _ (by omega))
          have tE := get_over k _ h9 hd2 hb2
          clear HG h9
          generalize l[k].toNat % 128 = d at *
          generalize l[k].toNat = x at *
          go_wp2_with fail
          go_ret2
          rw [HE.out]
          exact ⟨rfl, rfl⟩
        · obtain ⟨g1, g2, g3, g4⟩ := get_arith k (l[k].toNat % 128) U h10 hd2 HR.out.1 hbad
          have G4 := Lib.hid g4
          clear g4
          by_cases h0 : l[k].toNat = 0
          · have t0 : ((l[k].toNat : Int) == 0) = true := by rw [beq_iff_eq]; omega
            by_cases hk0 : 0 < k
            · have HE := Lib.hid (HG.out.trans (get_zero _ _ _ _ hk0 h10 h0))
              clear HG h0
              generalize l[k].toNat % 128 * 2 ^ (7 * k) = D at *
              generalize l[k].toNat % 128 = d at *
              generalize l[k].toNat = x at *
              go_wp2_with fail
              go_ret2
              rw [HE.out]
              exact ⟨rfl, rfl⟩
            · have HE := Lib.hid (HG.out.trans (get_last _ _ _ _ h10 (by omega) (by omega) (by omega)))
              rw [show l[k].toNat % 128 = l[k].toNat by omega] at *
              clear HG h0
              generalize l[k].toNat * 2 ^ (7 * k) = D at *
              generalize l[k].toNat = x at *
              go_wp2_with fail
              go_ret2
              rw [HE.out]
              exact ⟨rfl, rfl⟩
          · have t0 : ((l[k].toNat : Int) == 0) = false := by rw [beq_eq_false_iff_ne]; omega
            by_cases h128 : l[k].toNat < 128
            · have HE := Lib.hid (HG.out.trans (get_last _ _ _ _ h10 (by omega) (by omega) (by omega)))
              rw [show l[k].toNat % 128 = l[k].toNat by omega] at *
              clear HG
              generalize l[k].toNat * 2 ^ (7 * k) = D at *
              generalize l[k].toNat = x at *
              go_wp2_with fail
              go_ret2
              rw [HE.out]
              exact ⟨rfl, rfl⟩
            · have HE := Lib.hid (HG.out.trans (get_more _ _ _ _ h10 (by omega)))
              rw [show l[k].toNat - 128 = l[k].toNat % 128 by omega] at HE
              clear HG
              generalize l[k].toNat % 128 * 2 ^ (7 * k) = D at *
              generalize l[k].toNat % 128 = d at *
              generalize l[k].toNat = x at *
              go_wp2_with fail
              go_round
              case rel => exact ⟨k + 1, U + D, by omega, by omega, by go_num, rfl, G4.out, HE.out⟩
              case measure => simp [intOf]; omega
      · have HE : Hid (getN l = (0, 0)) := Lib.hid (by
          rw [HR.out.2]
          by_cases h10 : k = 10
          · subst h10; exact get_ten _ _
          · rw [List.drop_eq_nil_of_le (by rw [HN.out]; omega)]; rfl)
        go_wp2_with fail
        go_ret2
        rw [HE.out]
        exact ⟨rfl, rfl⟩
end Go.Proofs.Ytahaoodklfmddaa
/- The number that its digits begin with is read back. Conditions: none. -/
set_option maxRecDepth 100000
namespace Go.Proofs.Ytahaoodklfmddaa

theorem get_dig (r : List UInt8) (x : Nat) : ∀ (i U : Nat), i < 10 → x * 2 ^ (7 * i) < 18446744073709551616 → (0 < i → 0 < x) → getAt (dig x ++ r) i U = (U + x * 2 ^ (7 * i), i + (dig x).length) := by
  induction x using Nat.strongRecOn with
  | _ x ih =>
    intro i U hi hb h0
    have hp : 0 < 2 ^ (7 * i) := Nat.two_pow_pos _
    by_cases h : x < 128
    · rw [dig_lo h]
      have e : (UInt8.ofNat x).toNat = x := by simp; omega
      have h9 : ¬ (i = 9 ∧ 1 < (UInt8.ofNat x).toNat) := by
        rw [e]
        rintro ⟨rfl, h1⟩
        have := Nat.mul_le_mul_right (2 ^ (7 * 9)) (show 2 ≤ x by omega)
        omega
      rw [List.singleton_append, get_last _ _ _ _ hi (by rw [e]; omega) h9 (by rw [e]; exact h), e]
      rfl
    · have hi8 : i ≤ 8 := by
        rcases Nat.lt_or_ge i 9 with g | g
        · omega
        · obtain rfl : i = 9 := by omega
          have := Nat.mul_le_mul_right (2 ^ (7 * 9)) (show 128 ≤ x by omega)
          omega
      rw [dig_hi h, List.cons_append, get_more _ _ _ _ hi (by simp; omega)]
      have e : (UInt8.ofNat (x % 128 + 128)).toNat - 128 = x % 128 := by simp; omega
      have hpow : 2 ^ (7 * (i + 1)) = 128 * 2 ^ (7 * i) := by rw [show 7 * (i + 1) = 7 + 7 * i by omega, Nat.pow_add]
      have hsplit : x % 128 * 2 ^ (7 * i) + x / 128 * 2 ^ (7 * (i + 1)) = x * 2 ^ (7 * i) := by
        rw [hpow, ← Nat.mul_assoc, ← Nat.add_mul]
        congr 1
        omega
      rw [ih (x / 128) (by omega) (i + 1) _ (by omega) (by omega) (by omega), e]
      rw [Nat.add_assoc U, hsplit]
      simp
      omega
theorem get_dig0 (r : List UInt8) {u : Nat} (hu : u < 18446744073709551616) : getN (dig u ++ r) = (u, (dig u).length) := by
  unfold getN
  rw [get_dig r u 0 0 (by omega) (by simpa using hu) (by omega)]
  simp
theorem dig_pos (u : Nat) : 0 < (dig u).length := by
  by_cases h : u < 128
  · rw [dig_lo h]; simp
  · rw [dig_hi h]; simp
end Go.Proofs.Ytahaoodklfmddaa
/- Contract of digest's readNode at a node's bytes. Conditions: a count that Load takes. -/
set_option maxRecDepth 100000
namespace Go.Proofs.Ytahaoodklfmddaa
open Go.RowKit Go.Maps Go.Sort Go.Shelf

theorem u8s_drop (l : List UInt8) (k : Nat) : (u8s l).drop k = u8s (l.drop k) := by simp [u8s]
/-- Get behind U bytes -/
theorem dget_at {W0 wr : World} {ad : Addr} {bn bc : Nat} {xs r : List UInt8} {U x : Nat} (hH : Holds W0 (.slice (some ad) bn bc) (u8s xs)) (hB : Below W0.heap.size W0 wr) (hbn : bn ≤ 100000) (hd : xs.drop U = dig x ++ r) (hx : x < 18446744073709551616) :
    U + (dig x).length ≤ bn ∧ 0 < (dig x).length ∧ (dig x).length ≤ 10 ∧ bn ≤ bc ∧ Hid (Calls Try.prog 56 #[.slice (some (ad.add U)) (bn - U) (bc - U)] wr fun e w' => e = .returned (.tuple #[.int .u64 (x : Int), .int .i64 ((dig x).length : Int)]) ∧ wr = w') := by
  have hl := hH.len
  rw [u8s_len] at hl
  have hp := dig_pos x
  have e := congrArg List.length hd
  simp only [List.length_drop, List.length_append] at e
  refine ⟨by omega, hp, dig_len10 hx, hl.2, ?_⟩
  have HH := (hH.below hB).drop U (by omega)
  rw [u8s_drop, hd] at HH
  have K := Get_any HH (by have := HH.len.1; rw [u8s_len] at this; omega)
  rw [get_dig0 _ hx] at K
  exact K
/-- the first numbers of three, the others 0 -/
def arr3 (a b c q : Nat) : Array Value := #[.int .u64 ((if 0 < q then a else 0 : Nat) : Int), .int .u64 ((if 1 < q then b else 0 : Nat) : Int), .int .u64 ((if 2 < q then c else 0 : Nat) : Int)]
theorem arr3_set (a b c q : Nat) (hq : q < 3) : (arr3 a b c q).setIfInBounds q (.int .u64 (([a, b, c].getD q 0 : Nat) : Int)) = arr3 a b c (q + 1) := by
  have h3 : q = 0 ∨ q = 1 ∨ q = 2 := by omega
  rcases h3 with rfl | rfl | rfl <;> rfl
/-- where the number q begins -/
def off3 (l : List Nat) (q : Nat) : Nat := ((l.take q).flatMap dig).length
theorem off3_next {l : List Nat} {q : Nat} (hq : q < l.length) : off3 l (q + 1) = off3 l q + (dig (l.getD q 0)).length := by
  unfold off3
  rw [List.take_succ_eq_append_getElem hq, List.flatMap_append, List.length_append, List.getD_eq_getElem?_getD, List.getElem?_eq_getElem hq]
  simp
theorem drop3 {l : List Nat} {r : List UInt8} {q : Nat} (hq : q < l.length) : (l.flatMap dig ++ r).drop (off3 l q) = dig (l.getD q 0) ++ ((l.drop (q + 1)).flatMap dig ++ r) := by
  have e : l.flatMap dig = (l.take q).flatMap dig ++ (dig (l.getD q 0) ++ (l.drop (q + 1)).flatMap dig) := by
    conv => lhs; rw [← List.take_append_drop q l, List.flatMap_append, List.drop_eq_getElem_cons hq, List.flatMap_cons]
    rw [List.getD_eq_getElem?_getD, List.getElem?_eq_getElem hq]
    simp
  rw [e, List.append_assoc, show off3 l q = ((l.take q).flatMap dig).length from rfl, List.drop_left, List.append_assoc]
set_option maxHeartbeats 3200000 in
theorem readNode_at {w : World} {ad : Addr} {bn bc : Nat} {y : Nat × Int} {r : List UInt8} (hH : Holds w (.slice (some ad) bn bc) (u8s (nodeB y ++ r))) (hbn : bn ≤ 100000) (hy : NodeOk y) (h40 : y.2 ≤ 1099511627776) :
    Calls Try.prog 57 #[.slice (some ad) bn bc] w fun e w' => e = .returned (.tuple #[.agg #[.int .i64 ((y.1 / 18446744073709551616 : Nat) : Int), .int .u64 ((y.1 % 18446744073709551616 : Nat) : Int), .int .i64 y.2], .int .i64 ((nodeB y).length : Int)]) ∧ Below w.heap.size w w' := by
  have hwl := nodeW_lt hy
  have hnl := nodeB_len hy
  have hnb : nodeB y = (nodeW y).flatMap dig := rfl
  rw [hnb] at hH hnl ⊢
  have hl64 := hy.1.1
  have hp64 := hy.1.2
  have hc1 := hy.2.1
  obtain ⟨lv, hlv⟩ : ∃ lv : Nat, y.1 / 18446744073709551616 = lv := ⟨_, rfl⟩
  obtain ⟨pr, hpr⟩ : ∃ pr : Nat, y.1 % 18446744073709551616 = pr := ⟨_, rfl⟩
  obtain ⟨cn, hcn⟩ : ∃ cn : Nat, y.2.toNat = cn := ⟨_, rfl⟩
  have hy2 : y.2 = (cn : Int) := by omega
  have hnw : nodeW y = [lv, pr, cn] := by unfold nodeW; rw [hlv, hpr, hcn]
  rw [hnw] at hH hwl hnl ⊢
  rw [hlv] at hl64 hp64
  rw [hpr] at hp64
  rw [hlv, hpr, hy2]
  rw [hy2] at h40 hc1
  have hlen : bn ≤ bc := by have := hH.len; omega
  have HH := Lib.hid hH
  have HW := Lib.hid hwl
  have KB := Try.bits_Len64 (pr : Int)
  have hbl : Lib.bitLen (pr : Int).toNat ≤ 64 - lv := Lib.bitLen_le _ _ (by omega) (by simpa using hp64)
  obtain ⟨bl, hble⟩ : ∃ bl, Lib.bitLen (pr : Int).toNat = bl := ⟨_, rfl⟩
  rw [hble] at hbl KB
  have hpr64 := hwl pr (by simp)
  clear hH hwl hy hnb hlv hpr hcn hy2 hnw hp64 hble
  obtain ⟨W, hW⟩ : ∃ W, (w.alloc (.cells #[.int .i64 0, .int .u64 0, .int .i64 0] 50)).alloc (.cells #[.int .u64 0, .int .u64 0, .int .u64 0] 63) = W := ⟨_, rfl⟩
  have hW0 : W.heap[w.heap.size]? = some (.cells #[.int .i64 0, .int .u64 0, .int .i64 0] 50 (0, 0)) := by rw [← hW]; exact (heap_alloc_old _ _ (by simp)).trans (heap_alloc_new w _)
  have hW1 : W.heap[w.heap.size + 1]? = some (.cells (arr3 lv pr cn 0) 63 (0, 0)) := by
    rw [← hW]
    have := heap_alloc_new (w.alloc (.cells #[.int .i64 0, .int .u64 0, .int .i64 0] 50)) (.cells #[.int .u64 0, .int .u64 0, .int .u64 0] 63)
    rw [World.size_alloc] at this
    exact this
  have hWB : Below w.heap.size w W := by rw [← hW]; exact ((Below.refl _ _).alloc (Nat.le_refl _) _).alloc (by simp) _
  have X0 := Lib.hid (And.intro hW0 (And.intro hW1 hWB))
  obtain ⟨R, hR⟩ : ∃ R, w.heap.size = R := ⟨_, rfl⟩
  have HRA : Hid (R ≠ (R + 1) ∧ w.heap.size ≤ (R + 1) ∧ w.heap.size ≤ R) := Lib.hid (by omega)
  rw [hR] at X0
  have hcb : (bn : Int) ≤ (bc : Int) := by omega
  have HLV := Lib.hid (And.intro hl64 (And.intro hbl (And.intro hpr64 (And.intro hc1 h40))))
  have HNL := Lib.hid hnl
  clear hW0 hW1 hWB hl64 hbl hpr64 hc1 h40 hnl
  go_enter Try.func57, Try.ntmps57
  go_wp2_with fail
  (try rw [hR])
  (try rw [hW])
  clear hW
  go_loopw [5, 12] (fun s5 s12 wr => ∃ (U q : Nat), s5 = .int .i64 U ∧ s12 = .int .i64 q ∧ q ≤ 3 ∧ U ≤ 30 ∧ Hid (U = off3 [lv, pr, cn] q) ∧ Hid (wr.heap[R]? = some (.cells #[.int .i64 0, .int .u64 0, .int .i64 0] 50 (0, 0)) ∧ wr.heap[R + 1]? = some (.cells (arr3 lv pr cn q) 63 (0, 0)) ∧ Below R w wr)) (fun _ s _ => 3 - (intOf s).toNat)
  case atStart => exact ⟨0, 0, rfl, rfl, by omega, by omega, Lib.hid rfl, X0⟩
  case round =>
    clear X0
    obtain ⟨U, q, rfl, rfl, hq, hU, HU, HX⟩ := hrel
    by_cases hq3 : q < 3
    · have hl3 : q < [lv, pr, cn].length := by simpa using hq3
      have hux : [lv, pr, cn].getD q 0 < 18446744073709551616 := HW.out _ (by rw [List.getD_eq_getElem?_getD, List.getElem?_eq_getElem hl3]; exact List.getElem_mem _)
      have hd := drop3 (r := r) hl3
      have hon := off3_next hl3
      have hset := arr3_set lv pr cn q hq3
      rw [← HU.out] at hd hon
      generalize [lv, pr, cn].getD q 0 = u at hux hd hon hset
      obtain ⟨g1, g2, g3, g4, KG⟩ := dget_at HH.out (hR ▸ HX.out.2.2) hbn hd hux
      obtain ⟨D, hD⟩ : ∃ D, (dig u).length = D := ⟨_, rfl⟩
      rw [hD] at g1 g2 g3 KG hon
      have v0 : ¬ bc = U := by omega
      have v1 : (U : Int) ≤ (bn : Int) := by omega
      have v2 : U ≤ bn := by omega
      have hD0 : ((D : Int) == (0 : Int)) = false := by simp; omega
      have hD1 : (D == 0) = false := by simp; omega
      have wU : IntKind.i64.wrap ((U : Int) + (D : Int)) = ((U + D : Nat) : Int) := by rw [IntKind.wrap_i64]; omega
      have hw64 : IntKind.i64.wrap ((q : Int) + 1) = (q : Int) + 1 := by rw [IntKind.wrap_i64]; omega
      have a0 : (0 : Int) ≤ (q : Int) := Int.natCast_nonneg q
      have b3 : (q : Int) < 3 := by omega
      have hcA : ∃ z, wr.cell? ⟨R + 1, q, none⟩ = some z := by
        rw [cell_of_row _ _ _ _ _ _ HX.out.2.1]
        have h3 : q = 0 ∨ q = 1 ∨ q = 2 := by omega
        rcases h3 with rfl | rfl | rfl <;> exact ⟨_, rfl⟩
      obtain ⟨z, hz⟩ := hcA
      have hfz := free_of_row HX.out.2.1 q
      have HN : Hid ((wr.setCell ⟨R + 1, q, none⟩ (.int .u64 (u : Int))).heap[R]? = some (.cells #[.int .i64 0, .int .u64 0, .int .i64 0] 50 (0, 0)) ∧ (wr.setCell ⟨R + 1, q, none⟩ (.int .u64 (u : Int))).heap[R + 1]? = some (.cells (arr3 lv pr cn (q + 1)) 63 (0, 0)) ∧ Below R w (wr.setCell ⟨R + 1, q, none⟩ (.int .u64 (u : Int)))) := Lib.hid
        ⟨(Below.heap_setCell _ ⟨R + 1, q, none⟩ _ R (fun e => HRA.out.1 e)).trans HX.out.1, by have := heap_set (j := q) HX.out.2.1 (.int .u64 (u : Int)); rw [hset] at this; exact this, HX.out.2.2.setCell (by show R ≤ (R + 1); have := HRA.out; omega) _⟩
      have HU2 : Hid (U + D = off3 [lv, pr, cn] (q + 1)) := Lib.hid hon.symm
      have hU3 : U + D ≤ 30 := by
        have e1 : off3 [lv, pr, cn] (q + 1) ≤ ([lv, pr, cn].flatMap dig).length := by
          unfold off3
          conv => rhs; rw [← List.take_append_drop (q + 1) [lv, pr, cn], List.flatMap_append, List.length_append]
          omega
        have := HNL.out
        omega
      clear hl3 hux hd hon hset g1 g2 g3 g4 hD HU HX
      go_wp2_with fail
      refine KG.out.mono ?_
      rintro e w1 ⟨rfl, rfl⟩
      clear KG
      go_wp2_with fail
      go_roundw
      case rel => exact ⟨U + D, q + 1, rfl, by go_num, hq3, hU3, HU2, HN⟩
      case measure => simp [intOf]; omega
    · obtain rfl : q = 3 := by omega
      have hX := HX.out
      have f0 : wr.cell? ⟨R + 1, 0, none⟩ = some (.int .u64 (lv : Int)) := by rw [cell_of_row _ _ _ _ _ _ hX.2.1]; rfl
      have f1 : wr.cell? ⟨R + 1, 1, none⟩ = some (.int .u64 (pr : Int)) := by rw [cell_of_row _ _ _ _ _ _ hX.2.1]; rfl
      have f2 : wr.cell? ⟨R + 1, 2, none⟩ = some (.int .u64 (cn : Int)) := by rw [cell_of_row _ _ _ _ _ _ hX.2.1]; rfl
      have hlv := HLV.out
      have t0 : decide ((64 : Int) < (lv : Int)) = false := decide_eq_false (by omega)
      have t0' : decide (64 < lv) = false := decide_eq_false (by omega)
      have wl : IntKind.i64.wrap (lv : Int) = (lv : Int) := by rw [IntKind.wrap_i64]; omega
      have wl2 : IntKind.i64.wrap ((64 : Int) - (lv : Int)) = (64 : Int) - (lv : Int) := by rw [IntKind.wrap_i64]; omega
      have t1 : decide ((64 : Int) - (lv : Int) < (bl : Int)) = false := decide_eq_false (by omega)
      have t2 : decide ((cn : Int) < (1 : Int)) = false := decide_eq_false (by omega)
      have t2' : decide (cn < 1) = false := decide_eq_false (by omega)
      have t3 : decide ((1099511627776 : Int) < (cn : Int)) = false := decide_eq_false (by omega)
      have t3' : decide (1099511627776 < cn) = false := decide_eq_false (by omega)
      have wc : IntKind.i64.wrap (cn : Int) = (cn : Int) := by rw [IntKind.wrap_i64]; omega
      have hUe : U = ([lv, pr, cn].flatMap dig).length := by rw [HU.out]; rfl
      have HE := Lib.hid hUe
      have KB2 := Lib.hid (fun W => KB W (by omega) (by omega))
      have d0 : wr.cell? ⟨R, 0, none⟩ = some (.int .i64 0) := by rw [cell_of_row _ _ _ _ _ _ hX.1]; rfl
      have d1 : wr.cell? ⟨R, 1, none⟩ = some (.int .u64 0) := by rw [cell_of_row _ _ _ _ _ _ hX.1]; rfl
      have d2 : wr.cell? ⟨R, 2, none⟩ = some (.int .i64 0) := by rw [cell_of_row _ _ _ _ _ _ hX.1]; rfl
      have e0 := free_of_row hX.1 0
      have e1 := free_of_row hX.1 1
      have e2 := free_of_row hX.1 2
      have HX3 := Lib.hid (fun (z : Nat) => (show (((((wr.drewN z).setCell ⟨R, 0, none⟩ (.int .i64 (lv : Int))).setCell ⟨R, 1, none⟩ (.int .u64 (pr : Int))).setCell ⟨R, 2, none⟩ (.int .i64 (cn : Int))).heap[R]? = some (.cells #[.int .i64 (lv : Int), .int .u64 (pr : Int), .int .i64 (cn : Int)] 50 (0, 0))) ∧ Below R w ((((wr.drewN z).setCell ⟨R, 0, none⟩ (.int .i64 (lv : Int))).setCell ⟨R, 1, none⟩ (.int .u64 (pr : Int))).setCell ⟨R, 2, none⟩ (.int .i64 (cn : Int))) from
        ⟨heap_set (heap_set (heap_set (show (wr.drewN z).heap[R]? = _ from hX.1) _) _) _, (((below_dN hX.2.2 z).setCell (Nat.le_refl R) _).setCell (Nat.le_refl R) _).setCell (Nat.le_refl R) _⟩))
      clear hX hlv hUe HU HX KB
      go_wp2_with fail
      go_quiet (fail)
      go_wp2_with fail
      refine (KB2.out _).mono ?_
      rintro e w1 ⟨rfl, rfl⟩
      go_wp2_with fail
      obtain ⟨hfin, hbel⟩ := HX3.out nq
      generalize (((wr.drewN nq).setCell ⟨R, 0, none⟩ (.int .i64 (lv : Int))).setCell ⟨R, 1, none⟩ (.int .u64 (pr : Int))).setCell ⟨R, 2, none⟩ (.int .i64 (cn : Int)) = Wf at hfin hbel ⊢
      have r0 : Wf.cell? ⟨R, 0, none⟩ = some (.int .i64 (lv : Int)) := by rw [cell_of_row _ _ _ _ _ _ hfin]; rfl
      have r1 : Wf.cell? ⟨R, 1, none⟩ = some (.int .u64 (pr : Int)) := by rw [cell_of_row _ _ _ _ _ _ hfin]; rfl
      have r2 : Wf.cell? ⟨R, 2, none⟩ = some (.int .i64 (cn : Int)) := by rw [cell_of_row _ _ _ _ _ _ hfin]; rfl
      refine bodyPost_ret (v := .tuple #[.agg #[.int .i64 (lv : Int), .int .u64 (pr : Int), .int .i64 (cn : Int)], .int .i64 (U : Int)]) ?_ rfl ⟨by rw [HE.out], by rw [hR]; exact hbel⟩
      simp [results, Try.results57, go_sem, r0, r1, r2]
end Go.Proofs.Ytahaoodklfmddaa
