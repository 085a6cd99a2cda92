/- The walk of HeavyBounds: how far counts may be wrong, whatever was merged. Conditions: none. -/
import Derived.Test.YthmaabnacednmaaHeavyLives
import Derived.Test.YthmaabnacednmaaHeavyBoundsPlain
set_option maxRecDepth 100000
namespace Go.Proofs.Ythmaabnacednmaa
open Go.RowKit Go.Maps Go.Sort

set_option maxHeartbeats 6400000 in
theorem bounds_long {w : World} (u : Nat) (hu : u < 18446744073709551616) (la : Option Addr) (ln lc : Nat) (v : Int) (hln : 400 < ln) :
    Calls Try.prog 11 #[.int .u64 (u : Int), .slice la ln lc, .int .u64 v] w fun e w' => e = .returned (.bool true) ∧ Below w.heap.size w w' := by
  obtain ⟨m, hm⟩ : ∃ m : Nat, m = 1 + u % 64 := ⟨_, rfl⟩
  have e1 : (1 : Int) + (u : Int) % 64 = (m : Int) := by omega
  have hu0 : (0 : Int) ≤ (u : Int) := by omega
  have hu1 : (u : Int) < 18446744073709551616 := by omega
  have KN := side_new (Side.nil w) 0 (m := m) (by omega) (by omega)
  have KN2 := Lib.hid (fun W E (h : Side w E W) => side_new h 1 (m := m) (by omega) (by omega))
  have KL := Lib.hid (fun W => lives_any W)
  have tl : decide ((400 : Int) < (ln : Int)) = true := decide_eq_true (by omega)
  clear hm hln hu
  go_enter Try.func11, Try.ntmps11
  go_wp2_with fail
  refine KN.mono ?_
  rintro e w1 ⟨p, rfl, S1⟩
  have K2 := KN2.out _ _ S1.out
  clear KN S1 e1 hu0 hu1
  go_wp2_with fail
  refine K2.mono ?_
  rintro e w2 ⟨q, rfl, S2⟩
  have HB := Lib.hid S2.out.base
  have K3 := KL.out w2
  clear K2 KN2 KL S2
  go_wp2_with fail
  refine K3.mono ?_
  rintro e w3 ⟨rfl, hb⟩
  have HF := Lib.hid (HB.out.trans (hb.mono HB.out.size))
  clear K3 hb
  go_wp2_with fail
  go_ret
  exact ⟨rfl, HF.out⟩

theorem cnt_last {A : CL} {q : Int × Int} (h : Asc (A ++ [q])) (x : Int) : cnt (A ++ [q]) x = if q.1 = x then q.2 else cnt A x := by
  induction A with
  | nil => rfl
  | cons a r ih =>
    have h1 := asc_head h q (by simp)
    have ih := ih (asc_tail h)
    show (if a.1 = x then a.2 else cnt (r ++ [q]) x) = if q.1 = x then q.2 else if a.1 = x then a.2 else cnt r x
    rw [ih]
    by_cases g : a.1 = x
    · rw [if_pos g, if_neg (by omega), if_pos g]
    · rw [if_neg g, if_neg g]
theorem cnt_take {L : CL} (h : Asc L) {t : Nat} {q : Int × Int} (hq : L[t]? = some q) (x : Int) : cnt (L.take (t + 1)) x = if q.1 = x then q.2 else cnt (L.take t) x := by
  obtain ⟨ht, e⟩ := List.getElem?_eq_some_iff.1 hq
  rw [List.take_succ_eq_append_getElem ht, e]
  refine cnt_last ?_ x
  have : L.take t ++ [q] = L.take (t + 1) := by rw [List.take_succ_eq_append_getElem ht, e]
  rw [this]
  exact List.Pairwise.sublist (List.take_sublist _ _) h

theorem i64s_at {l : List Int} {k : Nat} (h : k < l.length) : (i64s l)[k]? = some (.int .i64 l[k]) := by simp [i64s, h]

set_option maxHeartbeats 32000000 in
theorem bounds_short {w : World} (u : Nat) (hu : u < 18446744073709551616) (la : Option Addr) (ln lc : Nat) (v : Nat) (hv : v < 18446744073709551616) (hln : ln ≤ 400) {l : List Int} (hl : Holds w (.slice la ln lc) (i64s l)) (hll : l.length = ln) (hx : ∀ x ∈ l, InI x) :
    Calls Try.prog 11 #[.int .u64 (u : Int), .slice la ln lc, .int .u64 (v : Int)] w fun e w' => e = .returned (.bool true) ∧ Below w.heap.size w w' := by
  obtain ⟨m, hm⟩ : ∃ m : Nat, m = 1 + u % 64 := ⟨_, rfl⟩
  obtain ⟨n, hn⟩ : ∃ n : Nat, n = v % (ln + 1) := ⟨_, rfl⟩
  have hnl : n ≤ ln := by have := Nat.mod_lt v (show 0 < ln + 1 by omega); omega
  have e1 : (1 : Int) + (u : Int) % 64 = (m : Int) := by omega
  have e2 : (v : Int) % ((ln : Int) + 1) = (n : Int) := by rw [hn]; simp
  have hu0 : (0 : Int) ≤ (u : Int) := by omega
  have hu1 : (u : Int) < 18446744073709551616 := by omega
  have hv0 : (0 : Int) ≤ (v : Int) := by omega
  have hv1 : (v : Int) < 18446744073709551616 := by omega
  have l1 : IntKind.i64.wrap ((ln : Int) + 1) = (ln : Int) + 1 := by rw [IntKind.wrap_i64]; omega
  have l2 : IntKind.u64.wrap ((ln : Int) + 1) = (ln : Int) + 1 := by simp [IntKind.wrap, IntKind.bits, IntKind.signed]; omega
  have l3 : (((ln : Int) + 1) == 0) = false := by simp; omega
  have l4 : ¬ ((ln : Int) + 1) = 0 := by omega
  have l5 : (0 : Int) < (ln : Int) + 1 := by omega
  have KN := side_new (Side.nil w) 0 (m := m) (by omega) (by omega)
  have KN2 := Lib.hid (fun W E (h : Side w E W) => side_new h 1 (m := m) (by omega) (by omega))
  have tl : ¬ (400 : Int) < (ln : Int) := by omega
  have m1 : 1 ≤ m := by omega
  have m2 : m ≤ 64 := by omega
  have HX := Lib.hid hx
  have HLL := Lib.hid hll
  have HL := Lib.hid hl
  clear hm hu hx hll hl hn hv hv1
  go_enter Try.func11, Try.ntmps11
  go_wp2_with fail
  refine KN.mono ?_
  rintro e w1 ⟨p, rfl, S1⟩
  have K2 := KN2.out _ _ S1.out
  clear KN S1 e1 hu0 hu1
  go_wp2_with fail
  refine K2.mono ?_
  rintro e w2 ⟨q, rfl, S2⟩
  have HS2 := Lib.hid (S2.out.sub (E' := [(0, Hk p (HV.none_ m)), (1, Hk q (HV.none_ m))]) (fun x hx => by simp at hx ⊢; rcases hx with rfl | rfl <;> simp))
  clear K2 KN2 S2
  go_wp2_with fail
  clear e2 hv0 l1 l2 l3 l4 l5 tl
  have HNM := Lib.hid (And.intro m1 (And.intro m2 (And.intro hnl hln)))
  have HSP : Hid (∀ k, k < ln → l.take (k + 1) = l.take k ++ [l.getD k 0]) := Lib.hid fun k hk => by
    have hkl : k < l.length := by rw [HLL.out]; exact hk
    rw [List.take_succ_eq_append_getElem hkl, List.getD_eq_getElem?_getD, List.getElem?_eq_getElem hkl]; rfl
  clear m1 m2 hln
  go_loopw [62] (fun s wr => ∃ (k : Nat) (la' lb' : List Int), s = .int .i64 k ∧ k ≤ ln ∧ Hid (la' ++ lb' = l.take k) ∧ Hid (k ≤ n → lb' = []) ∧ Hid (Side w [(0, Hk p (insAll (HV.none_ m) la')), (1, Hk q (insAll (HV.none_ m) lb'))] wr)) (fun s _ => ln - (intOf s).toNat)
  case atStart => exact ⟨0, [], [], rfl, Nat.zero_le _, rfl, (fun _ => rfl : 0 ≤ n → ([] : List Int) = []), HS2.out⟩
  case round =>
    clear HS2
    obtain ⟨k, la', lb', rfl, hk, HA, HB, HS⟩ := hrel
    by_cases hlt : k < ln
    · have hz : (k : Int) < (ln : Int) := by omega
      have hkl : k < l.length := by rw [HLL.out]; exact hlt
      have hh := HL.out.below HS.out.base
      obtain ⟨ad, hla⟩ := hh.ptr (by omega)
      subst hla
      have hc := hh.cell (i64s_at hkl)
      have hxi := HX.out l[k] (List.getElem_mem hkl)
      have hge : l.getD k 0 = l[k] := by rw [List.getD_eq_getElem?_getD, List.getElem?_eq_getElem hkl]; rfl
      have NA : Hid (la' ++ lb' ++ [l[k]] = l.take (k + 1)) := by show _ = _; rw [HSP.out k hlt, HA.out, hge]
      by_cases hkn : k < n
      · have hkz : (k : Int) < (n : Int) := by omega
        have hb0 := HB.out (by omega)
        subst hb0
        have KI := side_ins HS.out (fun e he => by simp at he; subst he; simp) hxi
        rw [← insAll_snoc] at KI
        have NA2 : Hid (la' ++ [l[k]] ++ [] = l.take (k + 1)) := by have := NA.out; rw [List.append_nil] at this; show _ = _; rw [List.append_nil]; exact this
        generalize l[k] = X at hc KI NA2
        clear hxi hge NA HS hkl hh
        go_wp2_with fail
        refine KI.mono ?_
        rintro e w3 ⟨rfl, S3⟩
        clear KI hc
        go_wp2_with fail
        go_roundw
        case rel => exact ⟨k + 1, la' ++ [X], [], by go_num, by omega, NA2, (fun _ => rfl : k + 1 ≤ n → ([] : List Int) = []), S3⟩
        case measure => simp [intOf]; omega
      · have hkz : ¬ (k : Int) < (n : Int) := by omega
        have KI := side_ins (HS.out.sub (E' := [(1, Hk q (insAll (HV.none_ m) lb')), (0, Hk p (insAll (HV.none_ m) la'))]) (fun x hx => by simp at hx ⊢; rcases hx with rfl | rfl <;> simp)) (fun e he => by simp at he; subst he; simp) hxi
        rw [← insAll_snoc] at KI
        have NA2 : Hid (la' ++ (lb' ++ [l[k]]) = l.take (k + 1)) := by have := NA.out; rw [List.append_assoc] at this; exact this
        generalize l[k] = X at hc KI NA2
        clear hxi hge NA HS hkl hh
        go_wp2_with fail
        refine KI.mono ?_
        rintro e w3 ⟨rfl, S3⟩
        clear KI hc
        go_wp2_with fail
        go_roundw
        case rel => exact ⟨k + 1, la', lb' ++ [X], by go_num, by omega, NA2, (fun h => absurd h (by omega) : k + 1 ≤ n → lb' ++ [X] = []), S3.out.sub (fun x hx => by simp at hx ⊢; rcases hx with rfl | rfl <;> simp)⟩
        case measure => simp [intOf]; omega
    · obtain rfl : k = ln := by omega
      have hall : la' ++ lb' = l := by have := HA.out; rwa [List.take_of_length_le (by rw [HLL.out]; exact Nat.le_refl _)] at this
      have hlen : la'.length + lb'.length = k := by have := congrArg List.length hall; rw [List.length_append, HLL.out] at this; exact this
      have ba := Bd.all (m := m) HNM.out.1 HNM.out.2.1 la' (by have := HNM.out.2.2.2; omega) la'.length (Nat.le_refl _)
      have bb := Bd.all (m := m) HNM.out.1 HNM.out.2.1 lb' (by have := HNM.out.2.2.2; omega) lb'.length (Nat.le_refl _)
      rw [List.take_length] at ba bb
      have KM := side_merge HS.out (fun e he => by simp at he; subst he; simp) (j := 1) (List.mem_cons_self ..) (by rw [ba.2.2.2, bb.2.2.2]) (by rw [ba.2.2.1, bb.2.2.1]; have := HNM.out.2.2.2; omega)
      have FB : Hid (∀ V', MergeP (insAll (HV.none_ m) la') (insAll (HV.none_ m) lb') V' → Bd V' (times l) ∧ V'.n = k ∧ V'.m = m) := Lib.hid fun V' hM => by
        refine ⟨?_, by rw [hM.2.1, ba.2.2.1, bb.2.2.1]; exact hlen, by rw [hM.1, ba.2.2.2]⟩
        have := ba.1.merge bb.1 (by rw [ba.2.2.2, bb.2.2.2]) hM
        have e : (fun x => times la' x + times lb' x) = times l := funext fun x => by rw [← times_append, hall]
        rwa [e] at this
      clear ba bb hall hlen HA HB HS
      go_wp2_with fail
      refine KM.mono ?_
      rintro e w3 ⟨rfl, S3⟩
      obtain ⟨V, hM, S4⟩ := side_merged S3.out
      obtain ⟨hbd, hvn, hvm⟩ := FB.out V hM
      have HV := Lib.hid (And.intro hbd (And.intro hvn hvm))
      have S5 := Lib.hid (S4.sub (E' := [(0, Hk p V)]) (fun x hx => by simp at hx ⊢; subst hx; simp))
      have KT := side_total S5.out (List.mem_cons_self ..)
      rw [hvn] at KT
      have KC := side_counters S5.out (List.mem_cons_self ..)
      have hvl := (side_good S5.out (List.mem_cons_self ..)).1.len
      rw [hvm] at hvl
      have hvl' : decide (m < V.L.length) = false := decide_eq_false (by omega)
      clear KM S3 FB hM S4 hbd hvn hvm
      go_wp2_with fail
      refine KT.mono ?_
      rintro e w4 ⟨rfl, rfl⟩
      clear KT
      go_wp2_with fail
      refine KC.mono ?_
      rintro e w5 ⟨g, c, rfl, hg, hc, hRow, hBel⟩
      have S6 := Lib.hid (S5.out.below hBel)
      obtain ⟨bd, hbd⟩ : ∃ bd : Nat, bd = k / (m + 1) := ⟨_, rfl⟩
      have tq : (k : Int) / ((m : Int) + 1) = (bd : Int) := by rw [hbd]; simp
      have tq0 : (0 : Int) < (m : Int) + 1 := by omega
      have tq1 : ¬ ((m : Int) + 1) = 0 := by omega
      have tq2 : (((m : Int) + 1) == 0) = false := by simp; omega
      have tq3 : IntKind.i64.wrap ((m : Int) + 1) = (m : Int) + 1 := by rw [IntKind.wrap_i64]; have := HNM.out; omega
      have tq4 : (0 : Int) ≤ (k : Int) := by omega
      have hbl : bd ≤ k := by rw [hbd]; exact Nat.div_le_self _ _
      have HBD := Lib.hid hbd
      clear KC S5 hg hc hRow hBel hbd
      go_wp2_with fail
      clear tq tq0 tq1 tq2 tq3 tq4 hvl hvl'
      go_loopw [102] (fun s wr => ∃ j : Nat, s = .int .i64 j ∧ j ≤ k ∧ Hid (Side w [(0, Hk p V)] wr)) (fun s _ => k - (intOf s).toNat)
      case atStart => exact ⟨0, rfl, Nat.zero_le _, S6.out⟩
      case round =>
        clear S6
        obtain ⟨j, rfl, hj, HS⟩ := hrel
        obtain ⟨W, hW⟩ : ∃ W : World, W = wr := ⟨_, rfl⟩
        rw [← hW] at HS ⊢
        clear hW
        by_cases hlt2 : j < k
        · have hz2 : (j : Int) < (k : Int) := by omega
          have hkl : j < l.length := by rw [HLL.out]; exact hlt2
          have hh := HL.out.below HS.out.base
          obtain ⟨ad, hla⟩ := hh.ptr (by omega)
          subst hla
          have hc := hh.cell (i64s_at hkl)
          have KC := side_counters HS.out (List.mem_cons_self ..)
          generalize l[j] = X at hc
          have HH := Lib.hid hh
          clear hkl hh
          go_wp2_with fail
          clear hc
          go_loopw [16, 108] (fun s16 s108 wr2 => ∃ (i : Nat) (f : Int), s16 = .int .i64 f ∧ s108 = .int .i64 i ∧ i ≤ k ∧ 0 ≤ f ∧ f ≤ i ∧ Hid (f = (times (l.take i) X : Int)) ∧ wr2 = W) (fun _ s _ => k - (intOf s).toNat)
          case atStart => exact ⟨0, 0, rfl, rfl, Nat.zero_le _, by omega, by omega, (by show (0 : Int) = _; simp [times]), rfl⟩
          case round =>
            obtain ⟨i, f, rfl, rfl, hi, f0, f1, HF, rfl⟩ := hrel
            by_cases hlt3 : i < k
            · have hz3 : (i : Int) < (k : Int) := by omega
              have hkl : i < l.length := by rw [HLL.out]; exact hlt3
              have hc := HH.out.cell (i64s_at hkl)
              have NC : Hid ((times (l.take (i + 1)) X : Int) = f + if l[i] = X then 1 else 0) := by
                have h1 := HF.out
                show _ = _
                rw [List.take_succ_eq_append_getElem hkl, times_snoc, h1]
                split <;> simp
              generalize l[i] = Y at hc NC
              clear hkl
              have fw : IntKind.i64.wrap (f + 1) = f + 1 := by rw [IntKind.wrap_i64]; have := HNM.out; omega
              by_cases heq : Y = X
              · have h1 := NC.out
                rw [if_pos heq] at h1
                have NC2 := Lib.hid h1
                subst heq
                clear NC h1
                go_wp2_with fail
                go_roundw
                case rel => exact ⟨i + 1, f + 1, by go_num, by go_num, by omega, by omega, by omega, NC2.out.symm, trivial⟩
                case measure => simp [intOf]; omega
              · have h1 := NC.out
                rw [if_neg heq] at h1
                have NC2 := Lib.hid h1
                have hbe : (Y == X) = false := by simpa using heq
                clear NC h1 heq
                go_wp2_with fail
                go_roundw
                case rel => exact ⟨i + 1, f, by go_num, by go_num, by omega, by omega, by omega, by have := NC2.out; show _ = _; omega, trivial⟩
                case measure => simp [intOf]; omega
            · obtain rfl : i = k := by omega
              have hft : Hid (f = (times l X : Int)) := by
                have h1 := HF.out
                rwa [List.take_of_length_le (by rw [HLL.out]; exact Nat.le_refl _)] at h1
              clear HF
              go_wp2_with fail
              refine KC.mono ?_
              rintro e w7 ⟨g2, c2, rfl, hg2, hc2, hRow2, hBel2⟩
              have S7 := Lib.hid (HS.out.below hBel2)
              have HR2 := Lib.hid hRow2
              have hll2 : V.L.length ≤ 100 := by have g := (side_good S7.out (List.mem_cons_self ..)).1; have := g.len; have := g.m64; omega
              clear KC hg2 hc2 hRow2 hBel2
              go_wp2_with fail
              go_loopw [17, 121] (fun s17 s121 wr3 => ∃ (t : Nat) (e : Int), s17 = .int .i64 e ∧ s121 = .int .i64 t ∧ t ≤ V.L.length ∧ Hid (e = cnt (V.L.take t) X) ∧ Hid (Below w7.heap.size w7 wr3)) (fun _ s _ => V.L.length - (intOf s).toNat)
              case atStart => exact ⟨0, 0, rfl, rfl, Nat.zero_le _, (by show (0 : Int) = _; simp [cnt]), Below.refl _ _⟩
              case round =>
                obtain ⟨t, ee, rfl, rfl, ht, HE, HB7⟩ := hrel
                by_cases hlt4 : t < V.L.length
                · have hz4 : (t : Int) < (V.L.length : Int) := by omega
                  obtain ⟨⟨a, y⟩, hq⟩ : ∃ q, V.L[t]? = some q := ⟨_, List.getElem?_eq_getElem hlt4⟩
                  obtain ⟨r0, r1, _, _⟩ := (HR2.out.below HB7.out).cell hq
                  simp only at r0 r1
                  have NE : Hid (cnt (V.L.take (t + 1)) X = if a = X then y else ee) := by
                    show _ = _
                    rw [cnt_take HV.out.1.asc hq, HE.out]
                  have B8 : Hid (Below w7.heap.size w7 (wr.alloc (.cells #[.int .i64 a, .int .i64 y] 89))) := HB7.out.alloc HB7.out.size _
                  clear hq HE
                  by_cases heq : a = X
                  · have h1 := NE.out
                    rw [if_pos heq] at h1
                    have NE2 := Lib.hid h1
                    subst heq
                    clear NE h1
                    go_wp2_with fail
                    go_roundw
                    case rel => exact ⟨t + 1, y, by go_num, by go_num, by omega, NE2.out.symm, B8⟩
                    case measure => simp [intOf]; omega
                  · have h1 := NE.out
                    rw [if_neg heq] at h1
                    have NE2 := Lib.hid h1
                    have hbe : (a == X) = false := by simpa using heq
                    clear NE h1 heq
                    go_wp2_with fail
                    go_roundw
                    case rel => exact ⟨t + 1, ee, by go_num, by go_num, by omega, NE2.out.symm, B8⟩
                    case measure => simp [intOf]; omega
                · obtain rfl : t = V.L.length := by omega
                  have he2 : ee = cnt V.L X := by have := HE.out; rwa [List.take_length] at this
                  have b1 := HV.out.1.lo X
                  have b2 := HV.out.1.bound X
                  have b3 := cnt_nonneg HV.out.1.pos X
                  rw [HV.out.2.1, HV.out.2.2, ← HBD.out] at b2
                  rw [← hft.out] at b1 b2
                  rw [← he2] at b1 b2 b3
                  have t1 : ¬ f < ee := by omega
                  have t2 : ¬ ee + (bd : Int) < f := by omega
                  have tw : IntKind.i64.wrap (ee + (bd : Int)) = ee + (bd : Int) := by rw [IntKind.wrap_i64]; have := HNM.out; omega
                  have S9 := Lib.hid (S7.out.below HB7.out)
                  clear HE he2 b1 b2 b3 hft
                  go_wp2_with fail
                  go_roundw
                  case rel => exact ⟨j + 1, by go_num, by omega, S9⟩
                  case measure => simp [intOf]; omega
        · obtain rfl : j = k := by omega
          have KT := side_top HS.out (List.mem_cons_self ..) m (by have := HNM.out; omega)
          go_wp2_with fail
          refine KT.mono ?_
          rintro e w7 ⟨g2, c2, R, rfl, hg2, hRk, hRow2, hBel2⟩
          have S7 := Lib.hid (HS.out.below hBel2)
          have HR2 := Lib.hid hRow2
          have HRK := Lib.hid hRk
          obtain ⟨K, hK⟩ : ∃ K, min m V.L.length = K := ⟨_, rfl⟩
          have hKl : K ≤ R.length := by rw [hRk.perm.length_eq]; omega
          have hKm : K ≤ 64 := by have := HNM.out; omega
          have HLE : Hid (∀ x ∈ R, 1 ≤ x.2 ∧ x.2 ≤ 1125899906842624) := Lib.hid fun x hx => by
            have hx' := hRk.perm.mem_iff.1 hx
            have g := (side_good S7.out (List.mem_cons_self ..)).1
            have h1 := g.pos x hx'
            have h2 := le_total g.pos x hx'
            have h3 := g.sum
            have h4 := g.n50
            omega
          rw [hK]
          clear KT hg2 hRk hRow2 hBel2 hK
          go_wp2_with fail
          go_loopw [22, 147] (fun s22 s147 wr3 => ∃ (t : Nat) (last : Int), s22 = .int .i64 last ∧ s147 = .int .i64 t ∧ t ≤ K ∧ Hid (∀ x, R[t]? = some x → x.2 ≤ last) ∧ Hid (Below w7.heap.size w7 wr3)) (fun _ s _ => K - (intOf s).toNat)
          case atStart => exact ⟨0, 4611686018427387904, rfl, rfl, Nat.zero_le _, (fun x hx => by have := (HLE.out x (List.mem_of_getElem? hx)).2; omega : ∀ x, R[0]? = some x → x.2 ≤ 4611686018427387904), Below.refl _ _⟩
          case round =>
            obtain ⟨t, last, rfl, rfl, ht, HT, HB7⟩ := hrel
            by_cases hlt4 : t < K
            · have hz4 : (t : Int) < (K : Int) := by omega
              obtain ⟨⟨a, y⟩, hq⟩ : ∃ q, R[t]? = some q := ⟨_, List.getElem?_eq_getElem (by omega)⟩
              obtain ⟨r0, r1, _, _⟩ := (HR2.out.below HB7.out).cell hq
              simp only at r0 r1
              have y1 := (HLE.out _ (List.mem_of_getElem? hq)).1
              have y2 := HT.out _ hq
              simp only at y1 y2
              have t1 : ¬ y < 1 := by omega
              have t2 : ¬ last < y := by omega
              have NT : Hid (∀ x, R[t + 1]? = some x → x.2 ≤ y) := Lib.hid fun x hx => by
                obtain ⟨h1, e1⟩ := List.getElem?_eq_some_iff.1 hq
                obtain ⟨h2, e2⟩ := List.getElem?_eq_some_iff.1 hx
                have := List.pairwise_iff_getElem.1 HRK.out.order t (t + 1) h1 h2 (by omega)
                rw [e1, e2, ltTop_no] at this
                simp only at this
                omega
              have B8 : Hid (Below w7.heap.size w7 (wr.alloc (.cells #[.int .i64 a, .int .i64 y] 89))) := HB7.out.alloc HB7.out.size _
              clear hq HT y1 y2
              go_wp2_with fail
              go_roundw
              case rel => exact ⟨t + 1, y, by go_num, by go_num, by omega, NT, B8⟩
              case measure => simp [intOf]; omega
            · have hz4 : ¬ (t : Int) < (K : Int) := by omega
              have S9 := Lib.hid (S7.out.below HB7.out)
              have KL := lives_any wr
              clear HT HB7
              go_wp2_with fail
              refine KL.mono ?_
              rintro e w9 ⟨rfl, hb⟩
              have HF := Lib.hid (S9.out.below hb).base
              clear KL hb
              go_wp2_with fail
              go_ret
              exact ⟨rfl, HF.out⟩

theorem bounds_any {w : World} (u : Nat) (hu : u < 18446744073709551616) (la : Option Addr) (ln lc : Nat) (v : Nat) (hv : v < 18446744073709551616) {l : List Int} (hl : Holds w (.slice la ln lc) (i64s l)) (hll : l.length = ln) (hx : ∀ x ∈ l, InI x) :
    Calls Try.prog 11 #[.int .u64 (u : Int), .slice la ln lc, .int .u64 (v : Int)] w fun e w' => e = .returned (.bool true) ∧ Below w.heap.size w w' := by
  by_cases h : 400 < ln
  · exact bounds_long u hu la ln lc v h
  · exact bounds_short u hu la ln lc v hv (by omega) hl hll hx
end Go.Proofs.Ythmaabnacednmaa
