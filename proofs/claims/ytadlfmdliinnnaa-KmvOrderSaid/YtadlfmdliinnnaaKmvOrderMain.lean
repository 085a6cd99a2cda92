/- The walk of KmvOrder where there is something to insert. Conditions: good settings, at most 300 numbers. -/
import Derived.Test.YtadlfmdliinnnaaKmvOrder
set_option maxRecDepth 100000
namespace Go.Proofs.Ytadlfmdliinnnaa
open Go.RowKit Go.Maps Go.Sort

/-- three sketches side by side -/
def Tri (w : World) (p q r : Nat) (V A B : SkV) (W : World) : Prop := Side w [(0, Sk p V), (1, Sk q A), (2, Sk r B)] W
section
variable {w W : World} {p q r : Nat} {V A B : SkV} {x : Nat}
theorem tri0 (h : Tri w p q r V A B W) (hx : x < 18446744073709551616) :
    Calls Try.prog 14 #[.pointer (some ⟨p, 0, none⟩), .int .u64 (x : Int)] W fun e w' => e = .returned (.tuple #[]) ∧ Tri w p q r (V.ins x) A B w' :=
  (side_ins h (fun e he => by simp at he; rcases he with rfl | rfl <;> simp) hx).mono fun _ _ ⟨a, b⟩ => ⟨a, b.out⟩
theorem tri1 (h : Tri w p q r V A B W) (hx : x < 18446744073709551616) :
    Calls Try.prog 14 #[.pointer (some ⟨q, 0, none⟩), .int .u64 (x : Int)] W fun e w' => e = .returned (.tuple #[]) ∧ Tri w p q r V (A.ins x) B w' := by
  have h1 := h.sub (E' := [(1, Sk q A), (0, Sk p V), (2, Sk r B)]) (fun x hx => by simp at hx; rcases hx with rfl | rfl | rfl <;> simp)
  exact (side_ins h1 (fun e he => by simp at he; rcases he with rfl | rfl <;> simp) hx).mono fun _ _ ⟨a, b⟩ => ⟨a, b.out.sub (fun x hx => by simp at hx; rcases hx with rfl | rfl | rfl <;> simp)⟩
theorem tri2 (h : Tri w p q r V A B W) (hx : x < 18446744073709551616) :
    Calls Try.prog 14 #[.pointer (some ⟨r, 0, none⟩), .int .u64 (x : Int)] W fun e w' => e = .returned (.tuple #[]) ∧ Tri w p q r V A (B.ins x) w' := by
  have h1 := h.sub (E' := [(2, Sk r B), (0, Sk p V), (1, Sk q A)]) (fun x hx => by simp at hx; rcases hx with rfl | rfl | rfl <;> simp)
  exact (side_ins h1 (fun e he => by simp at he; rcases he with rfl | rfl <;> simp) hx).mono fun _ _ ⟨a, b⟩ => ⟨a, b.out.sub (fun x hx => by simp at hx; rcases hx with rfl | rfl | rfl <;> simp)⟩
theorem tri_merge (h : Tri w p q r V A B W) (ht : A.t = B.t) (hS : A.seeds = B.seeds) :
    Calls Try.prog 16 #[.pointer (some ⟨r, 0, none⟩), .pointer (some ⟨q, 0, none⟩)] W fun e w' => e = .returned (.int .i64 0) ∧ Tri w p q r V A (B.merge A) w' := by
  have h1 := h.sub (E' := [(2, Sk r B), (0, Sk p V), (1, Sk q A)]) (fun x hx => by simp at hx; rcases hx with rfl | rfl | rfl <;> simp)
  exact (side_merge h1 (fun e he => by simp at he; rcases he with rfl | rfl <;> simp) (j := 1) (by simp) ht hS).mono fun _ _ ⟨a, b⟩ => ⟨a, b.out.sub (fun x hx => by simp at hx; rcases hx with rfl | rfl | rfl <;> simp)⟩
end

/-- what the rounds have put where -/
def Parts (t : Nat) (S : List (Nat × Nat)) (l : List Nat) (N m : Nat) (V A B : SkV) : Prop :=
  OfSet t S (fun z => z ∈ l.take m) V ∧ OfSet t S (fun z => z ∈ (l.reverse.take m).take N) A ∧ OfSet t S (fun z => z ∈ (l.reverse.take m).drop N) B
theorem Parts.lo {t : Nat} {S : List (Nat × Nat)} {l : List Nat} {N m : Nat} {V A B : SkV} (h : Parts t S l N m V A B) (hm : m < l.length) (hN : m < N) {y : Nat} (hy : y = l[l.length - 1 - m]) : Parts t S l N (m + 1) (V.ins l[m]) ((A.ins y).ins y) B := by
  have hr : m < l.reverse.length := by simpa using hm
  have hy' : l.reverse[m] = y := by rw [List.getElem_reverse, hy]
  have e1 : l.reverse.take (m + 1) = l.reverse.take m ++ [y] := by rw [List.take_succ_eq_append_getElem hr, hy']
  have hlen : (l.reverse.take m).length = m := by rw [List.length_take]; omega
  have hl1 : (l.reverse.take m ++ [y]).length = m + 1 := by rw [List.length_append, hlen]; rfl
  have a1 : (l.reverse.take m ++ [y]).take N = l.reverse.take m ++ [y] := List.take_of_length_le (by omega)
  have a2 : (l.reverse.take m).take N = l.reverse.take m := List.take_of_length_le (by omega)
  have a3 : (l.reverse.take m ++ [y]).drop N = [] := List.drop_of_length_le (by omega)
  have a4 : (l.reverse.take m).drop N = [] := List.drop_of_length_le (by omega)
  refine ⟨h.1.ins_take hm, ((h.2.1.ins y).ins y).iff fun z => ?_, h.2.2.iff fun z => ?_⟩
  · rw [e1, a1, a2]
    simp only [List.mem_append, List.mem_singleton]
    constructor
    · rintro (g | g)
      · exact .inr (.inr g)
      · exact .inl g
    · rintro (g | g | g)
      · exact .inr g
      · exact .inr g
      · exact .inl g
  · rw [e1, a3, a4]
theorem Parts.hi {t : Nat} {S : List (Nat × Nat)} {l : List Nat} {N m : Nat} {V A B : SkV} (h : Parts t S l N m V A B) (hm : m < l.length) (hN : N ≤ m) {y : Nat} (hy : y = l[l.length - 1 - m]) : Parts t S l N (m + 1) (V.ins l[m]) A (B.ins y) := by
  have hr : m < l.reverse.length := by simpa using hm
  have hy' : l.reverse[m] = y := by rw [List.getElem_reverse, hy]
  have e1 : l.reverse.take (m + 1) = l.reverse.take m ++ [y] := by rw [List.take_succ_eq_append_getElem hr, hy']
  have hlen : (l.reverse.take m).length = m := by rw [List.length_take]; omega
  refine ⟨h.1.ins_take hm, h.2.1.iff fun z => ?_, (h.2.2.ins y).iff fun z => ?_⟩
  · rw [e1, List.take_append_of_le_length (by omega)]
  · rw [e1, List.drop_append_of_le_length (by omega)]
    simp only [List.mem_append, List.mem_singleton]
    exact or_comm
theorem Parts.start (t : Nat) (S : List (Nat × Nat)) (l : List Nat) (N : Nat) : Parts t S l N 0 (SkV.empty t S) (SkV.empty t S) (SkV.empty t S) :=
  ⟨(OfSet.empty t S).iff fun z => by simp, (OfSet.empty t S).iff fun z => by simp, (OfSet.empty t S).iff fun z => by simp⟩
theorem Parts.done {t : Nat} {S : List (Nat × Nat)} {l : List Nat} {N : Nat} {V A B : SkV} (h : Parts t S l N l.length V A B) : V = B.merge A := by
  refine h.1.eq' (h.2.2.merge h.2.1) fun z => ?_
  rw [List.take_of_length_le (Nat.le_refl _), List.take_of_length_le (by simp)]
  constructor
  · rintro (g | g)
    · exact List.mem_reverse.1 (List.mem_of_mem_drop g)
    · exact List.mem_reverse.1 (List.mem_of_mem_take g)
  · intro g
    have : z ∈ l.reverse.take N ++ l.reverse.drop N := by rw [List.take_append_drop]; exact List.mem_reverse.2 g
    rcases List.mem_append.1 this with g | g
    · exact .inr g
    · exact .inl g

section
variable {w : World} {sa : Option Addr} {n sc : Nat} {S : List (Nat × Nat)}
set_option maxHeartbeats 6400000 in
theorem order_main (hs : SetAt w sa n sc S) (t : Nat) (k m : Int) (hg : goodB t S k m = true) (la : Option Addr) (lc : Nat) (cut : Nat) (hcut : cut < 18446744073709551616) {l : List Nat} (hl : Holds w (.slice la l.length lc) (nats l)) (hlt : ∀ x ∈ l, x < 18446744073709551616) (hln : l.length ≤ 300) :
    Calls Try.prog 4 #[setV t sa n sc k m, .slice la l.length lc, .int .u64 (cut : Int)] w fun e w' => e = .returned (.bool true) ∧ Below w.heap.size w w' := by
  have S0 := bx_start w t sa n sc k m
  obtain ⟨c0, c1, c2, c3⟩ := bx_cells S0 (List.mem_cons_self ..)
  have S1 := S0.drew
  have KA := Lib.hid (fun W (h : Side w [Bx w t sa n sc k m] W) => bx_new hs t k m hg h 0)
  have KB := Lib.hid (fun W p (h : Side w [(0, Sk p (SkV.empty t S)), Bx w t sa n sc k m] W) => bx_new hs t k m hg h 1)
  have KD := Lib.hid (fun W p q (h : Side w [(1, Sk q (SkV.empty t S)), (0, Sk p (SkV.empty t S)), Bx w t sa n sc k m] W) => bx_new hs t k m hg h 2)
  have KCB := Lib.hid (fun W (h : Side w [Bx w t sa n sc k m] W) => bx_cells h (.head _))
  have KC0 := Lib.hid (fun W p (h : Side w [(0, Sk p (SkV.empty t S)), Bx w t sa n sc k m] W) => bx_cells h (.tail _ (.head _)))
  have KC1 := Lib.hid (fun W p q (h : Side w [(1, Sk q (SkV.empty t S)), (0, Sk p (SkV.empty t S)), Bx w t sa n sc k m] W) => bx_cells h (.tail _ (.tail _ (.head _))))
  have KC2 := Lib.hid (fun W p q r (h : Side w [(2, Sk r (SkV.empty t S)), (1, Sk q (SkV.empty t S)), (0, Sk p (SkV.empty t S)), Bx w t sa n sc k m] W) => bx_cells h (.tail _ (.tail _ (.tail _ (.head _)))))
  have HL := Lib.hid hl
  have HLT := Lib.hid hlt
  clear hs hg hl hlt
  generalize hn' : l.length = ln at *
  have HLN := Lib.hid hn'
  clear hn'
  have tl : decide ((300 : Int) < (ln : Int)) = false := decide_eq_false (by omega)
  obtain ⟨N, hN⟩ : ∃ N, N = cut % (ln + 1) := ⟨_, rfl⟩
  have eN : (cut : Int) % ((ln : Int) + 1) = (N : Int) := by rw [hN, Int.natCast_emod, Int.natCast_add]; rfl
  have hN3 : N ≤ 300 := by have := Nat.mod_lt cut (show 0 < ln + 1 by omega); omega
  clear hN
  unfold setV
  unfold setO at S0 S1 c0 c1 c2 c3
  go_enter Try.func4, Try.ntmps4
  go_wp2_with fail
  go_region_held3 (fun w' => w'.cell? ⟨w.heap.size, 0, none⟩ = some (.int .i64 t) ∧ w'.cell? ⟨w.heap.size, 1, none⟩ = some (.slice sa n sc) ∧ w'.cell? ⟨w.heap.size, 2, none⟩ = some (.int .i64 k) ∧ w'.cell? ⟨w.heap.size, 3, none⟩ = some (.int .i64 m))
    (first | assumption | exact KCB.out _ (by assumption) | exact KC0.out _ _ (by assumption) | exact KC1.out _ _ _ (by assumption) | exact KC2.out _ _ _ _ (by assumption))
    (first
      | (go_at_call 9; refine (KA.out _ (by assumption)).mono ?_; rintro e w5 ⟨p5, rfl, s5⟩)
      | (go_at_call 9; refine (KB.out _ _ (by assumption)).mono ?_; rintro e w6 ⟨p6, rfl, s6⟩)
      | (go_at_call 9; refine (KD.out _ _ _ (by assumption)).mono ?_; rintro e w7 ⟨p7, rfl, s7⟩))
  have HT : Hid (Tri w p5 p6 p7 (SkV.empty t S) (SkV.empty t S) (SkV.empty t S) w7) := Lib.hid (s7.sub (fun x hx => by simp at hx; rcases hx with rfl | rfl | rfl <;> simp))
  rename_i hheld
  clear s5 s6 s7 S0 S1 KA KB KD KCB KC0 KC1 KC2 c0 c1 c2 c3 hheld
  go_wp2_with fail
  clear eN
  go_loopw [11, 12, 13, 44] (fun _ _ _ j wr => ∃ r : Nat, j = .int .i64 r ∧ r ≤ ln ∧ Hid (∃ V A B, Parts t S l N r V A B ∧ Tri w p5 p6 p7 V A B wr)) (fun _ _ _ j _ => ln - (intOf j).toNat)
  case atStart => exact ⟨0, rfl, Nat.zero_le _, _, _, _, Parts.start t S l N, HT.out⟩
  case round =>
    obtain ⟨r, rfl, hr, HR⟩ := hrel
    by_cases hlt : r < ln
    · obtain ⟨V, A, B, hP, hT⟩ := HR.out
      have hrl : r < l.length := by rw [HLN.out]; exact hlt
      have hyl : l.length - 1 - r < l.length := by omega
      have hH := HL.out.below hT.base
      obtain ⟨ad, rfl⟩ := hH.ptr (by omega)
      have e0 := hH.cell (nats_at hrl)
      have e1 := nats_at hyl
      have hx := HLT.out _ (List.getElem_mem hrl)
      have hy := HLT.out _ (List.getElem_mem hyl)
      have HLO := Lib.hid (fun (hN : r < N) => hP.lo hrl hN rfl)
      have HHI := Lib.hid (fun (hN : N ≤ r) => hP.hi hrl hN rfl)
      generalize l[l.length - 1 - r] = y at *
      generalize l[r] = x at *
      rw [HLN.out] at e1
      obtain ⟨u, hu⟩ : ∃ u, u = ln - 1 - r := ⟨_, rfl⟩
      rw [← hu] at e1
      have eu : (ln : Int) - 1 - (r : Int) = (u : Int) := by omega
      have b0 : (0 : Int) ≤ (r : Int) := by omega
      have b1 : (r : Int) < (ln : Int) := by omega
      have u0 : (0 : Int) ≤ (u : Int) := by omega
      have u1 : (u : Int) < (ln : Int) := by omega
      have K0 := tri0 hT hx
      have KY := Lib.hid (fun W V A B (h : Tri w p5 p6 p7 V A B W) => tri1 h hy)
      have KZ := Lib.hid (fun W V A B (h : Tri w p5 p6 p7 V A B W) => tri2 h hy)
      have HE := Lib.hid (fun W V A B (h : Tri w p5 p6 p7 V A B W) => (HL.out.below h.base).cell e1)
      clear hH hP hT HR hu hx hy
      go_wp2_with fail
      refine K0.mono ?_
      rintro e w8 ⟨rfl, s8⟩
      clear K0 e0 e1
      have e1 := HE.out _ _ _ _ s8
      by_cases hN : r < N
      · have HP := Lib.hid (HLO.out hN)
        have K1 := KY.out _ _ _ _ s8
        clear HLO HHI KZ s8
        go_wp2_with fail
        refine K1.mono ?_
        rintro e w9 ⟨rfl, s9⟩
        have K2 := KY.out _ _ _ _ s9
        clear K1 KY s9
        go_wp2_with fail
        refine K2.mono ?_
        rintro e w10 ⟨rfl, s10⟩
        clear K2
        have HQ : Hid (∃ V A B, Parts t S l N (r + 1) V A B ∧ Tri w p5 p6 p7 V A B w10) := Lib.hid ⟨_, _, _, HP.out, s10⟩
        clear s10 HP HE e1
        go_wp2_with fail
        go_roundw
        case rel => exact ⟨r + 1, by go_num, by omega, HQ⟩
        case measure => simp [intOf]; omega
      · have HP := Lib.hid (HHI.out (by omega))
        have K1 := KZ.out _ _ _ _ s8
        clear HLO HHI KY KZ s8
        go_wp2_with fail
        refine K1.mono ?_
        rintro e w9 ⟨rfl, s9⟩
        clear K1
        have HQ : Hid (∃ V A B, Parts t S l N (r + 1) V A B ∧ Tri w p5 p6 p7 V A B w9) := Lib.hid ⟨_, _, _, HP.out, s9⟩
        clear s9 HP HE e1
        go_wp2_with fail
        go_roundw
        case rel => exact ⟨r + 1, by go_num, by omega, HQ⟩
        case measure => simp [intOf]; omega
    · have hre : r = ln := by omega
      obtain ⟨V, A, B, hP, hT⟩ := HR.out
      rw [hre, ← HLN.out] at hP
      have hV := hP.done
      have K0 := tri_merge hT (by rw [hP.2.1.ht, hP.2.2.ht]) (by rw [hP.2.1.hs, hP.2.2.hs])
      rw [← hV] at K0
      have KS := Lib.hid (fun W (h : Tri w p5 p6 p7 V A V W) => side_bytes (i := 0) h (.head _))
      have KT := Lib.hid (fun W (h : Tri w p5 p6 p7 V A V W) => side_bytes (i := 2) h (.tail _ (.tail _ (.head _))))
      clear HR hP hT hV hre
      go_wp2_with fail
      refine K0.mono ?_
      rintro e w8 ⟨rfl, s8⟩
      have K1 := KS.out _ s8
      have S8 := Lib.hid s8
      clear K0 s8
      go_wp2_with fail
      refine K1.mono ?_
      rintro e w9 ⟨v1, rfl, ho1, hb1⟩
      have S9 := Lib.hid (S8.out.below hb1)
      have K2 := KT.out _ S9.out
      have H1 := Lib.hid (Holds.of_row (by rw [u8s_len]; exact ho1))
      clear K1 S8 hb1 ho1
      go_wp2_with fail
      refine K2.mono ?_
      rintro e w10 ⟨v2, rfl, ho2, hb2⟩
      have S10 := Lib.hid (S9.out.below hb2)
      have K3 := Same_any (H1.out.below hb2) (Holds.of_row (by rw [u8s_len]; exact ho2))
      have KL := bx_lives S10.out
      simp only [decide_true] at K3
      clear K2 S9 H1 hb2 ho2 KS KT
      go_wp2_with fail
      refine K3.mono ?_
      rintro e w11 ⟨rfl, rfl⟩
      clear K3
      go_wp2_with fail
      refine KL.mono ?_
      rintro e w12 ⟨rfl, hb⟩
      clear KL
      go_wp2_with fail
      go_ret
      exact ⟨rfl, hb⟩

theorem order_walk (hs : SetAt w sa n sc S) (t k m : Int) (la : Option Addr) (ln lc : Nat) (cut : Nat) (hcut : cut < 18446744073709551616) {l : List UInt64} (hl : Holds w (.slice la ln lc) (u64s l)) (hn : l.length = ln) :
    Calls Try.prog 4 #[setV t sa n sc k m, .slice la ln lc, .int .u64 (cut : Int)] w fun e w' => e = .returned (.bool true) ∧ Below w.heap.size w w' := by
  cases hg : goodB t S k m with
  | false => exact order_bad hs t k m hg la ln lc cut
  | true =>
    obtain ⟨tn, rfl, _⟩ := goodB_set hg
    by_cases h : 300 < ln
    · exact order_long hs tn k m hg la ln lc cut h
    · rw [u64s_nats] at hl
      have e : (l.map UInt64.toNat).length = ln := by simpa using hn
      subst e
      exact order_main hs tn k m hg la lc cut hcut hl (toNat_lt l) (by omega)
end
end Go.Proofs.Ytadlfmdliinnnaa
