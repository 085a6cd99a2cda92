/- The numbers that bytes are made of, plain, and the iterator that tells them. Conditions: fewer than 2^43 bytes. -/
import Derived.Test.YtbijpjoljljlpaaRangeP
import Derived.Test.YtbijpjoljljlpaaCodecGet
import Derived.Test.YtbijpjoljljlpaaCodecRead
import Derived.Sort.QuietTacIn
import Derived.Sort.BigQuietIn
import Derived.Outline
set_option maxRecDepth 100000
namespace Go.Proofs.Ytbijpjoljljlpaa
open Go.RowKit Go.Maps Go.Sort
attribute [local go_sem] Oper.semAt_some

/-- the numbers that bytes are made of; is what is left none? -/
def numsOf (l : List UInt8) : List Nat × Bool :=
  if _h : l = [] then ([], false) else if _h2 : (getN l).2 = 0 then ([], true) else ((getN l).1 :: (numsOf (l.drop (getN l).2)).1, (numsOf (l.drop (getN l).2)).2)
termination_by l.length
decreasing_by
  all_goals
    have : 0 < l.length := List.length_pos_iff.2 (by assumption)
    rw [List.length_drop]; omega
theorem nums_nil : numsOf [] = ([], false) := by rw [numsOf, dif_pos rfl]
theorem nums_bad {l : List UInt8} (h : l ≠ []) (h2 : (getN l).2 = 0) : numsOf l = ([], true) := by rw [numsOf, dif_neg h, dif_pos h2]
theorem nums_more {l : List UInt8} (h : l ≠ []) (h2 : (getN l).2 ≠ 0) : numsOf l = ((getN l).1 :: (numsOf (l.drop (getN l).2)).1, (numsOf (l.drop (getN l).2)).2) := by rw [numsOf, dif_neg h, dif_neg h2]
def numE (u : Nat) : Array Value := #[.int .u64 (u : Int)]
def numsE (l : List UInt8) : List (Array Value) := (numsOf l).1.map numE
theorem numsE_len (l : List UInt8) : (numsE l).length = (numsOf l).1.length := by simp [numsE]
theorem getAt_le : ∀ (l : List UInt8) (i U : Nat), (getAt l i U).2 ≤ i + l.length
  | [], i, U => by rw [get_nil]; omega
  | c :: r, i, U => by
    have ih := getAt_le r (i + 1) (U + (c.toNat - 128) * 2 ^ (7 * i))
    rw [getAt]
    simp only [List.length_cons]
    split
    · omega
    · split
      · omega
      · split
        · split
          · omega
          · omega
        · omega
theorem getAt_val : ∀ (l : List UInt8) (i U : Nat), i ≤ 10 → U < 2 ^ (7 * i) → (i = 10 → U < 18446744073709551616) → (getAt l i U).1 < 18446744073709551616
  | [], i, U, _, _, _ => by rw [get_nil]; omega
  | c :: r, i, U, hi, hU, _ => by
    have hp : 0 < 2 ^ (7 * i) := Nat.two_pow_pos _
    have hs : 2 ^ (7 * (i + 1)) = 128 * 2 ^ (7 * i) := by rw [show 7 * (i + 1) = 7 * i + 7 by omega, Nat.pow_add]; omega
    have hc := c.toNat_lt
    rw [getAt]
    split
    · omega
    · rename_i h10
      split
      · omega
      · rename_i h9
        have hle : ∀ d, d ≤ 127 → U + d * 2 ^ (7 * i) < 2 ^ (7 * (i + 1)) := fun d hd => by
          have := Nat.mul_le_mul_right (2 ^ (7 * i)) hd
          omega
        have hle64 : ∀ d, d ≤ 127 → (i = 9 → d ≤ 1) → U + d * 2 ^ (7 * i) < 18446744073709551616 := fun d hd h => by
          by_cases h2 : i = 9
          · subst h2
            have := Nat.mul_le_mul_right (2 ^ (7 * 9)) (h rfl)
            omega
          · have h3 : 2 ^ (7 * (i + 1)) ≤ 2 ^ 63 := Nat.pow_le_pow_right (by omega) (by omega)
            have := hle d hd
            omega
        split
        · rename_i h128
          split
          · omega
          · exact hle64 _ (by omega) (by omega)
        · rename_i h128
          refine getAt_val r (i + 1) _ (by omega) (hle _ (by omega)) (fun h => hle64 _ (by omega) (fun h2 => by omega))
theorem getN_bd (l : List UInt8) : (getN l).2 ≤ l.length ∧ (getN l).1 < 18446744073709551616 := by
  have h1 := getAt_le l 0 0
  have h2 := getAt_val l 0 0 (by omega) (by omega) (by omega)
  exact ⟨by unfold getN; omega, h2⟩
theorem nums_lt : ∀ (n : Nat) (l : List UInt8), l.length ≤ n → (numsOf l).1.length ≤ l.length ∧ ∀ u ∈ (numsOf l).1, u < 18446744073709551616 := by
  intro n
  induction n with
  | zero =>
    intro l hl
    have : l = [] := List.eq_nil_of_length_eq_zero (by omega)
    subst this
    rw [nums_nil]
    exact ⟨Nat.le_refl _, fun u h => by cases h⟩
  | succ n ih =>
    intro l hl
    by_cases h : l = []
    · subst h; rw [nums_nil]; exact ⟨Nat.le_refl _, fun u h => by cases h⟩
    · by_cases h2 : (getN l).2 = 0
      · rw [nums_bad h h2]; exact ⟨Nat.zero_le _, fun u h => by cases h⟩
      · rw [nums_more h h2]
        have hb := getN_bd l
        obtain ⟨i1, i2⟩ := ih (l.drop (getN l).2) (by rw [List.length_drop]; omega)
        rw [List.length_drop] at i1
        refine ⟨by rw [List.length_cons]; omega, fun u hu => ?_⟩
        rcases List.mem_cons.1 hu with rfl | hu
        · exact hb.2
        · exact i2 u hu
theorem nums_bd (l : List UInt8) : (numsOf l).1.length ≤ l.length ∧ ∀ u ∈ (numsOf l).1, u < 18446744073709551616 := nums_lt l.length l (Nat.le_refl _)
theorem numsE_at {l : List UInt8} {a k : Nat} {u : Nat} {t : List Nat} (h : (numsOf l).1.drop k = (numsOf (l.drop a)).1) (hr : (numsOf (l.drop a)).1 = u :: t) : ∃ hk : k < (numsE l).length, (numsE l)[k] = numE u ∧ (numsOf l).1.drop (k + 1) = t := by
  rw [hr] at h
  have hk : k < (numsOf l).1.length := by
    rcases Nat.lt_or_ge k (numsOf l).1.length with g | g
    · exact g
    · rw [List.drop_eq_nil_of_le g] at h; cases h
  rw [List.drop_eq_getElem_cons hk] at h
  injection h with h1 h2
  exact ⟨by simpa [numsE] using hk, by simp [numsE, h1], h2⟩
/-- the box of the bytes, and the bytes -/
def numR (bl : Nat) (l : List UInt8) (W : World) : Prop := ∃ v, W.cell? ⟨bl, 0, none⟩ = some v ∧ Holds W v (u8s l)
theorem drewN_ab {β : Type} {B m : Nat} {J : β → World → Prop} (h : Abides B m J) {s : β} {X : World} (hj : J s X) (n : Nat) : J s (X.drewN n) := by
  induction n with
  | zero => exact hj
  | succ n ih => exact h.drew ih

set_option maxHeartbeats 1600000 in
theorem numbers_seq (bl : Nat) (l : List UInt8) (hl : l.length ≤ 17592186044000) : SeqP Try.prog 68 #[.pointer (some ⟨bl, 0, none⟩)] 0 (numsE l) (numsOf l).2 corrupt (numR bl l) := by
  intro q J Jp W hR hAb hAp hY hF h0
  have HR := Lib.hid hR
  have HY := Lib.hid hY
  have HD := Lib.hid hAb
  have H0 := Lib.hid h0
  have HF := Lib.hid hF
  obtain ⟨ln, hln⟩ : ∃ n, n = l.length := ⟨_, rfl⟩
  rw [← hln] at hl
  have HN := Lib.hid hln
  have HL := Lib.hid hl
  clear hR hY h0 hAb hAp hF hln hl
  refine (callsIn_wide (n := 0)).1 ?_
  refine callsIn_of_wp Try.func68 rfl trivial ?_ rfl
  simp only [Try.ntmps68, List.size_toArray, List.length_cons, List.length_nil, Nat.reduceAdd, Nat.reduceSub, Array.replicate_succ, Array.replicate_zero, List.push_toArray, List.append_toArray, List.nil_append, List.cons_append]
  gi_wp2
  gi_loopw [3] (fun d wr => ∃ k a : Nat, d = .int .i64 (a : Int) ∧ a ≤ ln ∧ k ≤ (numsE l).length ∧ Hid ((numsOf l).1.drop k = (numsOf (l.drop a)).1 ∧ (numsOf l).2 = (numsOf (l.drop a)).2 ∧ J k wr ∧ W.heap.size ≤ wr.heap.size)) (fun d _ => ln - (intOf d).toNat)
  case atStart => exact ⟨0, 0, rfl, by omega, by omega, rfl, rfl, H0.out, Nat.le_refl _⟩
  case round =>
    obtain ⟨k, a, rfl, ha, hkl, HK⟩ := hrel
    obtain ⟨v, c1, hv⟩ := HR.out k _ HK.out.2.2.1
    obtain ⟨sa, sc, rfl, hsc⟩ := hv.form
    rw [u8s_len, ← HN.out] at c1 hv hsc
    have HK2 := Lib.hid hkl
    clear hkl
    by_cases hlt : a < ln
    · obtain ⟨ad, rfl⟩ := hv.ptr (by omega)
      have hne : l.drop a ≠ [] := by
        intro e
        have h := congrArg List.length e
        rw [List.length_drop, List.length_nil] at h
        have := HN.out; omega
      have hdr := hv.drop a (Nat.le_of_lt hlt)
      have hd8 : (u8s l).drop a = u8s (l.drop a) := by simp [u8s, List.map_drop]
      rw [hd8] at hdr
      have KG := Get_any hdr (by rw [List.length_drop]; have := HL.out; have := HN.out; omega)
      have hgb := getN_bd (l.drop a)
      rw [List.length_drop, ← HN.out] at hgb
      have hcne : ¬ sc = a := by omega
      have t0 : decide (a < ln) = true := decide_eq_true hlt
      have HH := Lib.hid hne
      have HJ := Lib.hid HK.out.2.2.1
      have HZ := Lib.hid HK.out.2.2.2
      by_cases h0 : (getN (l.drop a)).2 = 0
      · have e := nums_bad hne h0
        rw [e] at HK
        have ek : k = (numsE l).length := by
          have h3 := HK.out.1
          rw [List.drop_eq_nil_iff] at h3
          have := HK2.out
          rw [numsE_len] at this ⊢
          omega
        have HP := Lib.hid (HF.out HK.out.2.1 wr (by rw [← ek]; exact HJ.out))
        have t1 : (((getN (l.drop a)).2 : Int) == 0) = true := by rw [h0]; rfl
        clear e ek h0 hdr hd8 hv hgb hne
        generalize (getN (l.drop a)).1 = u at KG
        generalize (getN (l.drop a)).2 = n at KG t1
        gi_wp2_with fail
        refine ⟨trivial, rfl, (callsIn_wide.2 KG).mono ?_⟩
        rintro e w' ⟨rfl, rfl⟩
        gi_wp2_with fail
        exact ⟨rfl, .inr ⟨_, rfl, HP.out⟩⟩
      · have e := nums_more hne h0
        have e3 : (l.drop a).drop (getN (l.drop a)).2 = l.drop (a + (getN (l.drop a)).2) := by rw [List.drop_drop]
        rw [e3] at e
        obtain ⟨hk, e1, e2⟩ := numsE_at HK.out.1 (congrArg Prod.fst e)
        have E2 : Hid ((numsOf l).1.drop (k + 1) = (numsOf (l.drop (a + (getN (l.drop a)).2))).1 ∧ (numsOf l).2 = (numsOf (l.drop (a + (getN (l.drop a)).2))).2) := Lib.hid ⟨e2, by rw [HK.out.2.1, e]⟩
        have HY2 := Lib.hid (HY.out k hk wr HJ.out HZ.out)
        rw [e1] at HY2
        unfold numE at HY2
        have t1 : (((getN (l.drop a)).2 : Int) == 0) = false := by rw [beq_eq_false_iff_ne]; omega
        have hpos : 0 < (getN (l.drop a)).2 := by omega
        have hle := hgb.1
        have HLT := Lib.hid (show a + (getN (l.drop a)).2 ≤ ln ∧ 0 < (getN (l.drop a)).2 by omega)
        clear e e1 e2 e3 h0 hdr hd8 hv hgb hne
        generalize (getN (l.drop a)).1 = u at KG HY2
        generalize (getN (l.drop a)).2 = n at KG t1 E2 hpos hle HLT
        have hlim : (a : Int) + (n : Int) ≤ 17592186044000 := by have := HLT.out; have := HL.out; omega
        obtain ⟨fn, tmps, assign, body, hy, hRd⟩ := HY2.out
        gi_wp2_with fail
        refine ⟨trivial, rfl, (callsIn_wide.2 KG).mono ?_⟩
        rintro e w' ⟨rfl, rfl⟩
        gi_wp2_with fail
        refine ⟨rfl, hRd.mono ?_⟩
        rintro e W3 ⟨hh, ⟨rfl, hJ⟩ | ⟨ch, rfl, hJ⟩⟩
        · have HJ3 := Lib.hid hJ
          have HZ3 := Lib.hid (Nat.le_trans HZ.out hh.1)
          clear hJ hh hy hRd c1
          gi_wp2_with fail
          go_roundw
          case rel => exact ⟨k + 1, a + n, by go_num, HLT.out.1, hk, E2.out.1, E2.out.2, HJ3.out, HZ3.out⟩
          case measure => have := HLT.out; simp [intOf]; omega
        · have HJ3 := Lib.hid hJ
          clear hJ hh hy hRd c1
          gi_wp2_with fail
          exact ⟨rfl, .inr ⟨_, rfl, HJ3.out⟩⟩
    · have t1 : decide (a < ln) = false := decide_eq_false hlt
      have e : l.drop a = [] := List.drop_eq_nil_of_le (by rw [← HN.out]; omega)
      rw [e, nums_nil] at HK
      have ek : k = (numsE l).length := by
        have h3 := HK.out.1
        rw [List.drop_eq_nil_iff] at h3
        have := HK2.out
        rw [numsE_len] at this ⊢
        omega
      have HP : Hid ((numsOf l).2 = false ∧ J (numsE l).length wr ∧ W.heap.size + 0 ≤ wr.heap.size) := Lib.hid ⟨HK.out.2.1, by rw [← ek]; exact HK.out.2.2.1, HK.out.2.2.2⟩
      clear e ek hv HK
      gi_wp2_with fail
      go_end0
      exact .inl ⟨HP.out.1, ⟨_, rfl⟩, HP.out.2.1, HP.out.2.2⟩
/-- numbers: a box, and the iterator over it -/
theorem numbers_any (sa : Option Addr) (n c : Nat) (W : World) : Calls Try.prog 64 #[.slice sa n c] W fun e W' =>
    e = .returned (.func (.func 68) #[] #[.pointer (some ⟨W.heap.size, 0, none⟩)]) ∧ W' = W.alloc (.cells #[.slice sa n c] 28) := by
  go_enter Try.func64, Try.ntmps64
  go_wp2
  go_ret
  exact ⟨rfl, rfl⟩
end Go.Proofs.Ytbijpjoljljlpaa
