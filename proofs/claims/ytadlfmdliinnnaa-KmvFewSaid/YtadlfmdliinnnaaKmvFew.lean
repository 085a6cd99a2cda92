/- The walk of KmvFew: few unlike numbers are counted exactly. Conditions: none. -/
import Derived.Test.YtadlfmdliinnnaaKmvOrder
import Derived.Test.YtadlfmdliinnnaaKmvFewPlain
set_option maxRecDepth 100000
namespace Go.Proofs.Ytadlfmdliinnnaa
open Go.RowKit Go.Maps Go.Sort

section
variable {w : World} {sa : Option Addr} {n sc : Nat} {S : List (Nat × Nat)}
set_option maxHeartbeats 6400000 in
theorem few_bad (hs : SetAt w sa n sc S) (t k m : Int) (hg : goodB t S k m = false) (la : Option Addr) (ln lc : Nat) :
    Calls Try.prog 5 #[setV t sa n sc k m, .slice la ln lc] w fun e w' => e = .returned (.bool true) ∧ Below w.heap.size w w' := by
  have S0 := bx_start w t sa n sc k m
  obtain ⟨c0, c1, c2, c3⟩ := bx_cells S0 (List.mem_cons_self ..)
  have KN := bx_nil hs t k m hg S0
  have KG := Lib.hid (fun W (h : Side w [Bx w t sa n sc k m] W) => hg ▸ bx_good hs t k m h)
  have KC := Lib.hid (fun W (h : Side w [Bx w t sa n sc k m] W) => bx_cells h (List.mem_cons_self ..))
  have KL := Lib.hid (fun W (h : Side w [Bx w t sa n sc k m] W) => bx_lives h)
  clear hs hg S0
  unfold setV
  unfold setO at KN c0 c1 c2 c3
  go_enter Try.func5, Try.ntmps5
  go_wp2_with fail
  refine KN.mono ?_
  rintro e w5 ⟨rfl, s5⟩
  have K1 := KG.out _ s5
  obtain ⟨d0, d1, d2, d3⟩ := KC.out _ s5
  clear KN KG KC c0 c1 c2 c3 s5
  go_wp2_with fail
  refine K1.mono ?_
  rintro e w6 ⟨rfl, s6⟩
  have KL2 := KL.out _ s6
  clear K1 KL s6
  go_wp2_with fail
  refine KL2.mono ?_
  rintro e w7 ⟨rfl, hb⟩
  clear KL2
  go_wp2_with fail
  go_ret
  exact ⟨rfl, hb⟩

set_option maxHeartbeats 6400000 in
theorem few_long (hs : SetAt w sa n sc S) (t : Nat) (k m : Int) (hg : goodB t S k m = true) (la : Option Addr) (ln lc : Nat) (hln : 300 < ln) :
    Calls Try.prog 5 #[setV t sa n sc k m, .slice la ln lc] w fun e w' => e = .returned (.bool true) ∧ Below w.heap.size w w' := by
  have S0 := bx_start w t sa n sc k m
  obtain ⟨c0, c1, c2, c3⟩ := bx_cells S0 (List.mem_cons_self ..)
  have KN := bx_new hs t k m hg S0 0
  have KG := Lib.hid (fun W E (h : Side w E W) => hg ▸ bx_good hs t k m h)
  have KC := Lib.hid (fun W p (h : Side w [(0, Sk p (SkV.empty t S)), Bx w t sa n sc k m] W) => bx_cells h (.tail _ (.head _)))
  have KL := Lib.hid (fun W E (h : Side w E W) => bx_lives h)
  have tl : decide ((300 : Int) < (ln : Int)) = true := decide_eq_true (by omega)
  clear hs hg S0 hln
  unfold setV
  unfold setO at KN c0 c1 c2 c3
  go_enter Try.func5, Try.ntmps5
  go_wp2_with fail
  refine KN.mono ?_
  rintro e w5 ⟨p, rfl, s5⟩
  have K1 := KG.out _ _ s5
  obtain ⟨d0, d1, d2, d3⟩ := KC.out _ _ s5
  clear KN KG KC c0 c1 c2 c3 s5
  go_wp2_with fail
  refine K1.mono ?_
  rintro e w6 ⟨rfl, s6⟩
  have KL2 := KL.out _ _ s6
  clear K1 KL s6
  go_wp2_with fail
  refine KL2.mono ?_
  rintro e w7 ⟨rfl, hb⟩
  clear KL2
  go_wp2_with fail
  go_ret
  exact ⟨rfl, hb⟩

theorem bx_ins {W : World} {p x : Nat} {V : SkV} {b : Nat × Thing} (h : Side w [(0, Sk p V), b] W) (hb : b.1 ≠ 0) (hx : x < 18446744073709551616) :
    Calls Try.prog 14 #[.pointer (some ⟨p, 0, none⟩), .int .u64 (x : Int)] W fun e w' => e = .returned (.tuple #[]) ∧ Side w [(0, Sk p (V.ins x)), b] w' :=
  (side_ins h (fun e he => by simp at he; subst he; exact hb) hx).mono fun _ _ ⟨a, b⟩ => ⟨a, b.out⟩
theorem of_nat' (x : Nat) (W : World) (h1 : x < 18446744073709551616) : Calls Try.prog 23 #[.int .u64 (x : Int)] W fun e w' => e = .returned (.int .u64 ((x % 2305843009213693951 : Nat) : Int)) ∧ W = w' :=
  (of_any x W (by omega) (by omega)).mono fun e w' ⟨h, b⟩ => ⟨by rw [h]; exact ret_int (by omega), b⟩
/-- is x unlike the first j numbers? -/
def newB (l : List Nat) (j x : Nat) : Bool := decide (∀ y ∈ l.take j, y % 2305843009213693951 ≠ x % 2305843009213693951)
theorem newB_zero (l : List Nat) (x : Nat) : newB l 0 x = true := by simp [newB]
theorem newB_next (l : List Nat) (j x : Nat) (h : j < l.length) : newB l (j + 1) x = (newB l j x && decide (l[j] % 2305843009213693951 ≠ x % 2305843009213693951)) := by
  unfold newB
  rw [Bool.eq_iff_iff, Bool.and_eq_true, decide_eq_true_eq, decide_eq_true_eq, decide_eq_true_eq, List.take_succ_eq_append_getElem h]
  constructor
  · exact fun g => ⟨fun y hy => g y (List.mem_append_left _ hy), g _ (List.mem_append_right _ (List.mem_singleton.2 rfl))⟩
  · rintro ⟨g1, g2⟩ y hy
    rcases List.mem_append.1 hy with g | g
    · exact g1 y g
    · rw [List.mem_singleton.1 g]; exact g2

/-- behind m rounds -/
def FewAt (w : World) (t : Nat) (S : List (Nat × Nat)) (l : List Nat) (b : Nat × Thing) (p m n : Nat) (W : World) : Prop :=
  ∃ V R, OfSet t S (fun z => z ∈ l.take m) V ∧ Unlike R (l.take m) ∧ R.length = n ∧ Side w [(0, Sk p V), b] W

set_option maxHeartbeats 6400000 in
theorem few_main (hs : SetAt w sa n sc S) (t : Nat) (k m : Int) (hg : goodB t S k m = true) (la : Option Addr) (lc : Nat) {l : List Nat} (hl : Holds w (.slice la l.length lc) (nats l)) (hlt : ∀ x ∈ l, x < 18446744073709551616) (hln : l.length ≤ 300) :
    Calls Try.prog 5 #[setV t sa n sc k m, .slice la l.length lc] w fun e w' => e = .returned (.bool true) ∧ Below w.heap.size w w' := by
  have S0 := bx_start w t sa n sc k m
  obtain ⟨c0, c1, c2, c3⟩ := bx_cells S0 (List.mem_cons_self ..)
  have KN := bx_new hs t k m hg S0 0
  obtain ⟨tn, htn, hset⟩ := goodB_set hg
  obtain rfl : t = tn := by omega
  clear htn
  have HSET := Lib.hid hset
  have HL := Lib.hid hl
  have HLT := Lib.hid hlt
  have tl : decide ((300 : Int) < (l.length : Int)) = false := decide_eq_false (by omega)
  have hlen := hl.len.2
  clear hs hg S0 hset hl hlt
  generalize hn' : l.length = ln at *
  have HLN := Lib.hid hn'
  clear hn'
  unfold setV
  unfold setO at KN c0 c1 c2 c3
  go_enter Try.func5, Try.ntmps5
  go_wp2_with fail
  refine KN.mono ?_
  rintro e w5 ⟨p, rfl, s5⟩
  have HT : Hid (FewAt w t S l (Bx w t sa n sc k m) p 0 0 w5) := Lib.hid ⟨_, [], (OfSet.empty t S).iff fun z => by simp, Unlike.nil, rfl, s5⟩
  clear KN c0 c1 c2 c3 s5
  go_wp2_with fail
  generalize hbx : Bx w t sa n sc k m = bx at *
  have HBX := Lib.hid hbx
  clear hbx
  go_loopw [6, 36] (fun cnt j wr => ∃ r q : Nat, j = .int .i64 r ∧ r ≤ ln ∧ cnt = .int .i64 q ∧ q ≤ r ∧ Hid (FewAt w t S l bx p r q wr)) (fun _ j _ => ln - (intOf j).toNat)
  case atStart => exact ⟨0, 0, rfl, Nat.zero_le _, rfl, Nat.le_refl _, HT.out⟩
  case round =>
    obtain ⟨r, q, rfl, hr, rfl, hq, HR⟩ := hrel
    by_cases hlt : r < ln
    · obtain ⟨V, R, hV, hR, hRq, hT⟩ := HR.out
      have hrl : r < l.length := by rw [HLN.out]; exact hlt
      have hH := HL.out.below hT.base
      obtain ⟨ad, rfl⟩ := hH.ptr (by omega)
      have e0 := hH.cell (nats_at hrl)
      have hx := HLT.out _ (List.getElem_mem hrl)
      have HV := Lib.hid (hV.ins_take hrl)
      have HR1 := Lib.hid (fun h => hR.add hrl h)
      have HR2 := Lib.hid (fun h => hR.old hrl h)
      generalize l[r] = x at *
      have b0 : (0 : Int) ≤ (r : Int) := by omega
      have b1 : (r : Int) < (ln : Int) := by omega
      have K0 := bx_ins hT (by rw [← HBX.out]; simp) hx
      have KX := Lib.hid (fun W => of_nat' x W hx)
      have HRQ := Lib.hid hRq
      clear hH hV hR hRq hT HR hx
      go_wp2_with fail
      refine K0.mono ?_
      rintro e w8 ⟨rfl, s8⟩
      have HC := Lib.hid (HL.out.below s8.base)
      have S8 := Lib.hid s8
      clear K0 s8 e0
      go_wp2_with fail
      go_loop [9, 48] (fun f j => ∃ z : Nat, j = .int .i64 z ∧ z ≤ r ∧ f = .bool (newB l z x)) (fun _ j => r - (intOf j).toNat)
      case atStart => exact ⟨0, rfl, Nat.zero_le _, by rw [newB_zero]⟩
      case round =>
        obtain ⟨z, rfl, hz, rfl⟩ := hrel
        by_cases hzt : z < r
        · have hzl : z < l.length := by rw [HLN.out]; omega
          have e1 := HC.out.cell (nats_at hzl)
          have hy := HLT.out _ (List.getElem_mem hzl)
          have HN := Lib.hid (newB_next l z x hzl)
          generalize l[z] = y at *
          have KY := Lib.hid (fun W => of_nat' y W hy)
          have z0 : (0 : Int) ≤ (z : Int) := by omega
          have z1 : (z : Int) < (r : Int) := by omega
          cases hf : newB l z x with
          | false =>
            rw [hf, Bool.false_and] at HN
            clear hf hy
            go_wp2_with fail
            go_round
            case rel => exact ⟨z + 1, by go_num, by omega, by rw [HN.out]⟩
            case measure => simp [intOf]; omega
          | true =>
            rw [hf, Bool.true_and] at HN
            clear hf hy
            have t0 : (((y % 2305843009213693951 : Nat) : Int) != ((x % 2305843009213693951 : Nat) : Int)) = newB l (z + 1) x := by
              rw [HN.out, Bool.eq_iff_iff, bne_iff_ne, decide_eq_true_eq]
              constructor
              · exact fun h e => h (by rw [e])
              · exact fun h e => h (Int.ofNat.inj e)
            obtain ⟨nb, hnb⟩ : ∃ nb, nb = newB l (z + 1) x := ⟨_, rfl⟩
            rw [← hnb] at t0
            have HNB := Lib.hid hnb
            clear hnb
            generalize y % 2305843009213693951 = ym at *
            generalize x % 2305843009213693951 = xm at *
            go_wp2_with fail
            refine (KY.out _).mono ?_
            rintro e w9 ⟨rfl, rfl⟩
            clear KY
            go_wp2_with fail
            refine (KX.out _).mono ?_
            rintro e w9 ⟨rfl, rfl⟩
            go_wp2_with fail
            go_round
            case rel => exact ⟨z + 1, by go_num, by omega, by rw [HNB.out]⟩
            case measure => simp [intOf]; omega
        · have hze : z = r := by omega
          cases hf : newB l z x with
          | true =>
            have HQ : Hid (FewAt w t S l bx p (r + 1) (q + 1) w8) := by
              rw [hze] at hf
              exact ⟨_, _, HV.out, HR1.out (of_decide_eq_true hf), by rw [List.length_append, HRQ.out]; rfl, S8.out⟩
            clear hf hze
            go_wp2_with fail
            go_roundw
            case rel => exact ⟨r + 1, q + 1, by go_num, by omega, by go_num, by omega, HQ⟩
            case measure => simp [intOf]; omega
          | false =>
            have HQ : Hid (FewAt w t S l bx p (r + 1) q w8) := by
              rw [hze] at hf
              exact ⟨_, _, HV.out, HR2.out (of_decide_eq_false hf), HRQ.out, S8.out⟩
            clear hf hze
            go_wp2_with fail
            go_roundw
            case rel => exact ⟨r + 1, q, by go_num, by omega, rfl, by omega, HQ⟩
            case measure => simp [intOf]; omega
    · have hre : r = ln := by omega
      obtain ⟨V, R, hV, hR, hRq, hT⟩ := HR.out
      rw [hre, ← HLN.out, List.take_length] at hV hR
      have hVL : V.L.length = S.length := hV.hl
      have HFL := Lib.hid (show ∀ c ∈ V.L, c.length = min t R.length from fun c hc => by obtain ⟨j, hj, rfl⟩ := List.getElem_of_mem hc; exact few_len HSET.out hV hR j hj)
      have HFA := Lib.hid (fun hn => few_answers HSET.out hV hR hn)
      rw [hRq] at HFL HFA
      have HUP := Lib.hid (show ∀ c ∈ V.L, Up c from fun c hc => by obtain ⟨j, hj, rfl⟩ := List.getElem_of_mem hc; exact (hV.least j hj).up)
      have S8 := Lib.hid hT
      have KC := side_copies (i := 0) hT (.head _)
      clear HR hV hR hRq hT hre
      go_wp2_with fail
      refine KC.mono ?_
      rintro e w8 ⟨g, rows, rfl, hr, hb⟩
      have S9 := Lib.hid (S8.out.below hb)
      have HRW := Lib.hid hr
      have HBC := Lib.hid (show ∀ W, Side w [(0, Sk p V), bx] W → W.cell? ⟨w.heap.size, 0, none⟩ = some (.int .i64 t) from fun W h => by rw [← HBX.out] at h; exact (bx_cells h (.tail _ (.head _))).1)
      have HGL := Lib.hid hVL
      have hN7 : V.L.length ≤ 7 := by rw [hVL]; exact HSET.out.n7
      clear KC hr hb S8 hVL
      generalize hN : V.L.length = N at *
      have HN := Lib.hid hN
      clear hN
      have ht2 := HSET.out.t2
      have ht64 := HSET.out.t64
      go_wp2_with fail
      go_loopw [13, 68] (fun _ j wr => ∃ z : Nat, j = .int .i64 z ∧ z ≤ N ∧ Hid (Below w8.heap.size w8 wr)) (fun _ j _ => N - (intOf j).toNat)
      case atStart => exact ⟨0, rfl, Nat.zero_le _, Below.refl _ _⟩
      case round =>
        obtain ⟨z, rfl, hz, HB⟩ := hrel
        by_cases hzt : z < N
        · have hzl : z < V.L.length := by rw [HN.out]; exact hzt
          have hr2 := HRW.out.below HB.out
          have hzr : z < rows.length := by rw [hr2.len]; exact hzl
          have d0 := HBC.out _ (S9.out.below HB.out)
          have c3 : wr.cell? ⟨g, z, none⟩ = some rows[z] := by rw [cell_of_row _ _ _ _ _ _ hr2.tab]; simp [hzr]
          have ho := hr2.row z _ _ (List.getElem?_eq_getElem hzr) (List.getElem?_eq_getElem hzl)
          generalize rows[z] = v at *
          have hlen := HFL.out _ (List.getElem_mem hzl)
          have hup := HUP.out _ (List.getElem_mem hzl)
          generalize V.L[z] = cl at *
          obtain ⟨a, c, rfl, hc, hcm⟩ := ownsRow_form ho
          have HH := Lib.hid (Holds.of_row (by rw [nats_len]; exact ho))
          have HU := Lib.hid hup
          generalize hcl : cl.length = cn at *
          have HCL := Lib.hid hcl
          have z0 : (0 : Int) ≤ (z : Int) := by omega
          have z1 : (z : Int) < (N : Int) := by omega
          have t1 : decide (t < cn) = false := decide_eq_false (by omega)
          have hcn : cn ≤ 64 := by omega
          obtain ⟨q1, hq1⟩ : ∃ b, b = decide (q ≤ t) := ⟨_, rfl⟩
          have t2 : decide (q ≤ t) = q1 := hq1.symm
          have t3 : q1 = true → ((cn : Int) != (q : Int)) = false := fun h => by
            rw [hq1, decide_eq_true_eq] at h
            have : cn = q := by omega
            rw [this]; simp
          clear hq1 hlen hup hcl ho hr2 hc
          cases q1
          all_goals
            first | (have t3 := t3 rfl) | clear t3
            go_wp2_with fail
            obtain ⟨wo, rfl⟩ : ∃ wo : World, wo = wr := ⟨_, rfl⟩
            go_loopw [14, 91] (fun _ j wq => ∃ y q2 : Nat, j = .int .i64 y ∧ y ≤ cn ∧ wq = wo.drewN q2) (fun _ j _ => cn - (intOf j).toNat)
            case atStart => exact ⟨0, 0, rfl, Nat.zero_le _, (World.drewN_zero _).symm⟩
            case round =>
              obtain ⟨y, q2, rfl, hy, rfl⟩ := hrel
              by_cases hyt : y < cn
              · have hyl : y < cl.length := by rw [HCL.out]; exact hyt
                obtain ⟨ad, rfl⟩ := HH.out.ptr (by omega)
                have e1 := HH.out.cell (nats_at hyl)
                have y0 : (0 : Int) ≤ (y : Int) := by omega
                have y1 : (y : Int) < (cn : Int) := by omega
                by_cases hy0 : 0 < y
                · have hyl2 : y - 1 < cl.length := by omega
                  have e2 := HH.out.cell (nats_at hyl2)
                  have hlt2 := List.pairwise_iff_getElem.1 HU.out (y - 1) y hyl2 hyl (by omega)
                  generalize cl[y - 1] = x1 at *
                  generalize cl[y] = x2 at *
                  obtain ⟨u, hu⟩ : ∃ u, u = y - 1 := ⟨_, rfl⟩
                  rw [← hu] at e2
                  have eu : (y : Int) - 1 = (u : Int) := by omega
                  have u0 : (0 : Int) ≤ (u : Int) := by omega
                  have u1 : (u : Int) < (cn : Int) := by omega
                  have t5 : decide (0 < y) = true := decide_eq_true hy0
                  have t6 : decide (x2 ≤ x1) = false := decide_eq_false (by omega)
                  clear hu hlt2 hyl2
                  go_wp2_with fail
                  go_quiet (fail)
                  go_wp2_with fail
                  go_roundw
                  case rel => exact ⟨y + 1, _, by go_num, by omega, rfl⟩
                  case measure => simp [intOf]; omega
                · have t5 : decide (0 < y) = false := decide_eq_false hy0
                  clear e1
                  go_wp2_with fail
                  go_quiet (fail)
                  go_wp2_with fail
                  go_roundw
                  case rel => exact ⟨y + 1, _, by go_num, by omega, rfl⟩
                  case measure => simp [intOf]; omega
              · have HB2 : Hid (Below w8.heap.size w8 (wo.drewN q2)) := Lib.hid (below_dN HB.out q2)
                clear d0 c3 t1 t2
                go_wp2_with fail
                go_roundw
                case rel => exact ⟨z + 1, by go_num, by omega, HB2⟩
                case measure => simp [intOf]; omega
        · have S10 := Lib.hid (S9.out.below HB.out)
          have d0 := HBC.out _ S10.out
          have KL := Lib.hid (bx_lives S10.out)
          clear HRW HFL HUP HBC S9 HB HL
          by_cases hqt : t ≤ q
          · have t1 : decide (t ≤ q) = true := decide_eq_true hqt
            go_wp2_with fail
            refine KL.out.mono ?_
            rintro e w9 ⟨rfl, hb⟩
            clear KL
            go_wp2_with fail
            go_ret
            exact ⟨rfl, hb⟩
          · have t1 : decide (t ≤ q) = false := decide_eq_false hqt
            have KA := side_answers (i := 0) S10.out (.head _)
            have hall := HFA.out (by omega)
            have hAL := V.answers_len
            have hmid := mid_all hall (by rw [hAL, HN.out]; have := HSET.out.n1; have := HGL.out; omega)
            have KE := Lib.hid (fun W (h : Below wr.heap.size wr W) => hmid ▸ side_est (i := 0) (S10.out.below h) (.head _))
            have KL2 := Lib.hid (fun W (h : Below wr.heap.size wr W) => bx_lives (S10.out.below h))
            rw [HN.out] at hAL
            have HALL := Lib.hid hall
            unfold AnsAt at KA
            rw [hAL] at KA
            have HAL := Lib.hid hAL
            generalize V.answers = A at *
            clear hall hAL hmid KL HFA S10
            go_wp2_with fail
            refine KA.mono ?_
            rintro e w9 ⟨g9, rfl, hg9, hc9, hb9⟩
            have HB9 := Lib.hid hb9
            have HC9 := Lib.hid (fun j hj => cell_ints (j := j) hc9 hj)
            clear KA hg9 hc9 hb9
            go_wp2_with fail
            go_loopw [16, 118] (fun _ j wq => ∃ z : Nat, j = .int .i64 z ∧ z ≤ N ∧ wq = w9) (fun _ j _ => N - (intOf j).toNat)
            case atStart => exact ⟨0, rfl, Nat.zero_le _, rfl⟩
            case round =>
              obtain ⟨z, rfl, hz, rfl⟩ := hrel
              by_cases hzt : z < N
              · have hzA : z < A.length := by rw [HAL.out]; exact hzt
                have e1 := HC9.out z hzA
                rw [HALL.out _ (List.getElem_mem hzA)] at e1
                have z0 : (0 : Int) ≤ (z : Int) := by omega
                have z1 : (z : Int) < (N : Int) := by omega
                go_wp2_with fail
                go_roundw
                case rel => exact ⟨z + 1, by go_num, by omega, trivial⟩
                case measure => simp [intOf]; omega
              · have KE2 := KE.out _ HB9.out
                clear HC9 d0
                go_wp2_with fail
                refine KE2.mono ?_
                rintro e w11 ⟨rfl, hb11⟩
                have KL3 := KL2.out _ (HB9.out.trans (hb11.mono HB9.out.size))
                clear KE2 KE hb11 KL2
                go_wp2_with fail
                refine KL3.mono ?_
                rintro e w12 ⟨rfl, hb⟩
                clear KL3
                go_wp2_with fail
                go_ret
                exact ⟨rfl, hb⟩

theorem few_walk (hs : SetAt w sa n sc S) (t k m : Int) (la : Option Addr) (ln lc : Nat) {l : List UInt64} (hl : Holds w (.slice la ln lc) (u64s l)) (hn : l.length = ln) :
    Calls Try.prog 5 #[setV t sa n sc k m, .slice la ln lc] w fun e w' => e = .returned (.bool true) ∧ Below w.heap.size w w' := by
  cases hg : goodB t S k m with
  | false => exact few_bad hs t k m hg la ln lc
  | true =>
    obtain ⟨tn, rfl, _⟩ := goodB_set hg
    by_cases h : 300 < ln
    · exact few_long hs tn k m hg la ln lc h
    · rw [u64s_nats] at hl
      have e : (l.map UInt64.toNat).length = ln := by simpa using hn
      subst e
      exact few_main hs tn k m hg la lc hl (toNat_lt l) (by omega)
end
end Go.Proofs.Ytadlfmdliinnnaa
